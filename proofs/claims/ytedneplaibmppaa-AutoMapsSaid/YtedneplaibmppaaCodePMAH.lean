/- The code of the functions that PMAH comes to. -/
import Derived.Test.YtedneplaibmppaaTypesC
set_option maxRecDepth 100000
set_option linter.unusedSectionVars false
set_option linter.unusedVariables false
namespace Go.Proofs.Ytedneplaibmppaa
open Go.Rx Go.RowKit
noncomputable section
abbrev kF:=false
abbrev kE:=true
abbrev fL0:List Bool:=[kF,kF,kF,kF,kF,kF,kF,kF,kF,kF,kF,kF]
abbrev fL1:List Bool:=[kF,kF,kF,kF,kE,kF,kE,kF,kF,kF,kF,kF,kF,kF,kF,kF,kF,kF,kF,kF,kF,kF,kF,kF,kF,kF,kF]
abbrev fL2:List Bool:=[kF,kF,kF,kF,kF,kF,kF,kF,kF,kF,kF,kF,kF,kF,kF,kF,kF,kF,kF,kF]
abbrev fL3:List Bool:=[kF,kF,kF,kF,kF,kF,kF,kF,kF,kF,kF,kF,kF,kF,kF,kF,kF,kF,kF]
abbrev fL4:List Bool:=[kF,kF,kF,kF,kF,kF,kF,kF,kF,kF,kF,kF,kF,kF,kF,kF]
abbrev fL5:List Bool:=[kF,kE,kF,kE,kF,kE,kF,kF,kF,kF,kF,kF]
abbrev fL6:List Bool:=[kF,kF,kF,kF,kF,kF,kF,kF,kF,kF,kF,kF,kF]
abbrev fL7:List Bool:=[kF,kF,kF,kF,kF,kF,kF,kF]
abbrev fL8:List Bool:=[kF,kF,kF,kF,kF,kF,kF,kF,kF,kF,kF,kF,kF,kF,kF,kF,kF,kF,kF,kE,kF]
abbrev fL9:List Bool:=[kF,kF,kF,kF,kF,kF,kF,kF,kF,kF,kF,kF,kF,kF,kF,kF,kF,kF,kF,kF,kF]
abbrev fL10:List Bool:=[kF,kF,kF,kF,kF,kF,kF,kF,kF,kF,kF,kF,kF,kF,kF,kF,kF,kE,kF]
abbrev fL11:List Bool:=[kF,kF,kF,kF,kF,kF,kF,kF,kF,kF,kF,kF,kF,kF,kF,kF,kF]
abbrev fL12:List Bool:=[kF,kF,kF,kF,kF,kF,kF,kF,kF,kF,kF,kF,kF,kF,kF]
abbrev fL13:List Bool:=[kF,kF,kF,kF,kF,kF,kF,kF,kF,kF,kF,kF,kF,kF,kF,kF,kE,kF]
abbrev fL14:List Bool:=[kF,kF,kF,kF,kF,kF,kF,kF,kF,kF,kF,kF,kF,kF,kF,kF,kF,kF]
abbrev fL15:List Bool:=[kF,kF,kF,kF,kF,kF,kF,kE,kE,kF,kF,kF]
abbrev fL16:List Bool:=[kF,kF,kF,kF,kF,kF,kF,kE,kE,kE,kF,kF]
abbrev fL17:List Bool:=[kF,kE,kF,kF,kF,kF,kF,kF,kF,kF,kF,kF]
abbrev fL18:List Bool:=[kF,kF,kF,kF,kF,kF,kE,kE,kF,kF,kF,kF,kF,kF,kF,kF,kF,kF,kF]
abbrev fL19:List Bool:=[kF,kF,kF,kF,kE,kF,kF,kF]
abbrev fL20:List Bool:=[kF,kE,kF,kE,kF,kE,kF,kF,kF,kF,kE,kF]
abbrev fL21:List Bool:=[kF,kF,kE,kF,kF,kF,kF,kE,kE,kF,kF,kF,kF,kF]
abbrev fL22:List Bool:=[kF,kF,kF,kF,kF,kF,kF,kF,kF,kF,kF,kF,kF,kF,kF,kF,kF,kF,kF,kF,kF,kF,kF,kF,kF,kF,kF]
abbrev fL23:List Bool:=[kF,kF,kF,kF,kF,kE,kF,kF,kF,kF,kF,kF,kF,kF,kF,kF,kF]
abbrev fL24:List Bool:=[kF,kE,kF,kE,kF,kF,kF,kF,kF,kF,kF,kF]
abbrev fL25:List Bool:=[kF,kF,kF,kF,kF,kF,kF,kF,kF,kF,kF,kF,kF,kF]
abbrev fL26:List Bool:=[kF,kE,kF,kF,kF,kE,kF,kF,kF,kF,kF,kF]
abbrev fL27:List Bool:=[kF,kE,kF,kE,kF,kF,kE,kF,kF,kF,kF,kF,kF]
abbrev fL28:List Bool:=[kF,kE,kF,kF,kF,kF,kE,kE,kF,kE,kF,kF,kF,kF,kF,kF]
abbrev fL29:List Bool:=[kF,kF,kF,kF,kF,kF,kF,kE,kF,kF,kF,kF]
abbrev fL30:List Bool:=[kF,kF,kF,kF,kF,kE,kF,kF,kF,kF,kF,kF,kF,kF,kF,kF]
abbrev fL31:List Bool:=[kF,kF,kF,kF,kF,kF,kE,kF,kF,kF,kF,kF,kF,kF,kF]
abbrev fL32:List Bool:=[kF,kF,kE,kF,kF,kF,kF,kF]
abbrev fL33:List Bool:=[kF,kE,kF,kF,kF,kF,kF,kF,kF,kF,kF,kF,kF,kF,kF,kF]
abbrev fL34:List Bool:=[kF,kF,kE,kF,kF,kF,kF,kF,kF,kF,kF,kF,kF,kF]
abbrev fL35:List Bool:=[kF,kF,kF,kF,kF,kE,kF,kF,kF,kF,kF,kF,kF]
abbrev fL36:List Bool:=[kF,kF,kF,kF,kF,kF,kE,kE,kF,kF,kF,kF,kF,kF,kF,kE,kE,kF,kF]
abbrev fL37:List Bool:=[kF,kF,kF,kF,kF,kF,kE,kF,kF,kF,kF,kF,kE,kF,kF]
abbrev fL38:List Bool:=[kF,kF,kF,kF,kF,kE,kF,kF,kF,kF,kE,kF,kF]
abbrev fL39:List Bool:=[kF,kF,kF,kF,kF,kE,kF,kF,kF,kF,kF,kE,kF,kF,kF,kF]
abbrev fL40:List Bool:=[kF,kE,kF,kF,kF,kE,kF,kF,kF,kF,kE,kF]
abbrev fL41:List Bool:=[kF,kF,kF,kF,kF,kF,kF,kF,kF,kE,kF,kF]
abbrev fL42:List Bool:=[kF,kF,kF,kF,kF,kF,kE,kF,kF,kF,kF,kF,kF,kF,kF,kF,kF,kF,kF]
abbrev fL43:List Bool:=[kF,kF,kF,kF,kF,kF,kE,kE,kF,kF,kF,kF,kF,kF,kF,kE,kF,kF,kF]
abbrev fL44:List Bool:=[kF,kE,kF,kE,kF,kF,kF,kF,kF,kF,kF,kF,kF]
abbrev fL45:List Bool:=[kF,kE,kF,kE,kF,kF,kE,kF,kF,kF,kF,kE,kF]
abbrev fL46:List Bool:=[kF,kE,kF,kF,kF,kF,kE,kE,kF,kE,kF,kF,kF,kF,kE,kF]
abbrev fL47:List Bool:=[kF,kF,kF,kF,kF,kF,kF,kF,kF,kF,kF,kF,kF,kF,kF,kF,kE,kE,kF,kF]
abbrev fL48:List Bool:=[kF,kF,kF,kF,kF,kF,kF,kE,kE,kE,kF,kE]
abbrev fL49:List Bool:=[kF,kF,kF,kF,kF,kE,kF,kF,kF,kF,kF,kF,kF,kF,kE,kF,kF]
abbrev fL50:List Bool:=[kF,kE,kF,kF,kF,kF,kF,kF,kF,kF,kF,kF,kF]
abbrev fL51:List Bool:=[kF,kE,kF,kF,kF,kF,kE,kE,kF,kF,kF,kF,kF,kF,kF,kF]
abbrev fL52:List Bool:=[kF,kF,kF,kF,kE,kF,kF,kF,kF,kF,kF,kF,kF,kF,kF,kF,kF,kF,kF,kF,kF,kF,kF,kF,kF,kF,kF]
abbrev fL53:List Bool:=[kF,kF,kF,kF,kF,kF,kF,kF,kF,kF,kF,kF,kF,kF,kF,kF,kE,kF,kF,kF]
abbrev fL54:List Bool:=[kF,kF,kF,kF,kF,kE,kF,kF,kF,kF,kF,kE,kF,kF,kE,kF]
abbrev fL55:List Bool:=[kF,kE,kF,kF,kF,kF,kE,kF,kF,kF,kF,kF,kF,kF,kF,kF]
abbrev fL56:List Bool:=[kF,kF,kF,kF,kE,kF,kF,kE]
abbrev fL57:List Bool:=[kF,kF,kF,kF,kF,kF,kE,kF]
abbrev fL58:List Bool:=[kF,kF,kE,kF,kF,kF,kF,kE,kF,kF,kF,kF,kF,kF]
abbrev fL59:List Bool:=[kF,kF,kE,kF,kF,kF,kE,kF]
abbrev kO (d:Nat)(t:TOp):G:=⟨some d,t,none⟩
abbrev kT:=Operand.tmp
abbrev kC (n:Int):Operand:=.const (.int .i64 n)
abbrev kN:Value:=.slice none 0 0
abbrev kZ:Value:=.int .i64 0
abbrev kA:=TOp.ar .i64
variable [bC] {xs : List Value} {h : Hp} {Q : Value → Hp → Prop}
def c8 : C := (.seq (.ops [kO 3 (.box 25 (kT 0)),
 kO 4 (.box 25 (kT 1)),
 kO 6 (.mov (.const (.bool kF)))])
 (.seq (.ahead [kO 30 (.bK 3 (kT 3)),
 kO 31 (.mov (kT 2)),
 kO 32 (.dX (kT 31)),
 kO 33 (kA .rem (kT 32) (kC 2)),
 kO 34 (kA .add (kC 2) (kT 33)),
 kO 35 (.call 37 [.tmp 30,.tmp 34,(kC 5)]),
 kO 36 (.bK 3 (kT 4)),
 kO 37 (.mov (kT 2)),
 kO 38 (.dX (kT 37)),
 kO 39 (kA .rem (kT 38) (kC 2)),
 kO 40 (kA .add (kC 2) (kT 39)),
 kO 41 (.call 37 [.tmp 36,.tmp 40,(kC 5)]),
 kO 7 (.alloc 26 [kZ,kN,kN]),
 kO 8 (.alloc 26 [kZ,kN,kN]),
 ⟨none,.store 3 (kT 7) (kT 35),none⟩,
 ⟨none,.store 3 (kT 8) (kT 41),none⟩]
 [⟨kF,kF,fL4,fL4⟩,
 ⟨kF,kF,fL4,fL4⟩,
 ⟨kF,kF,fL4,fL4⟩,
 ⟨kF,kF,fL4,fL4⟩,
 ⟨kF,kF,fL4,fL4⟩,
 ⟨kE,kF,fL4,fL30⟩,
 ⟨kF,kE,fL4,fL30⟩,
 ⟨kF,kE,fL4,fL30⟩,
 ⟨kF,kE,fL4,fL30⟩,
 ⟨kF,kE,fL4,fL30⟩,
 ⟨kF,kE,fL4,fL30⟩,
 ⟨kE,kF,fL30,fL39⟩,
 ⟨kF,kE,fL4,fL39⟩,
 ⟨kF,kE,fL4,fL39⟩,
 ⟨kE,kF,fL39,fL54⟩,
 ⟨kE,kF,fL54,[kF,kF,kF,kF,kF,kE,kF,kF,kF,kF,kF,kE,kF,kF,kE,kE]⟩]
 [kF,kF,kF,kF,kF,kF,kF,kF,kF,kF,kF,kF,kE,kE,kF,kF])
 (.seq (.ops [kO 42 (.mov (kT 2)),
 kO 43 (.call 45 [.tmp 42]),
 kO 9 (.mov (kT 43))])
 (.seq (.ahead [kO 45 (.bK 3 (kT 7)),
 kO 46 (.call 18 [.tmp 45]),
 kO 47 (.mov (kT 9)),
 kO 48 (.cZ 1 (kT 47) (kC 0)),
 kO 49 (.aQ (kT 48)),
 kO 50 (.call 29 [.tmp 46,.tmp 49]),
 kO 44 (.mov (kT 50)),
 kO 51 (.ext (kT 44) 0),
 kO 52 (.ext (kT 44) 1),
 kO 10 (.alloc 25 [kZ,kN,kN]),
 ⟨none,.store 3 (kT 10) (kT 51),none⟩,
 kO 11 (.mov (kT 52))]
 [⟨kF,kF,fL0,fL0⟩,
 ⟨kE,kF,fL0,fL17⟩,
 ⟨kF,kE,fL0,fL17⟩,
 ⟨kF,kE,fL0,fL17⟩,
 ⟨kF,kE,fL0,fL17⟩,
 ⟨kE,kF,fL17,fL26⟩,
 ⟨kF,kF,fL26,fL26⟩,
 ⟨kF,kF,fL26,fL26⟩,
 ⟨kF,kE,fL26,fL40⟩,
 ⟨kF,kE,fL0,fL26⟩,
 ⟨kE,kF,fL26,fL40⟩,
 ⟨kF,kF,fL40,fL40⟩]
 fL41)
 (.seq (.ahead [kO 54 (.bK 3 (kT 7)),
 kO 55 (.call 18 [.tmp 54]),
 kO 56 (.bK 3 (kT 8)),
 kO 57 (.call 18 [.tmp 56]),
 kO 58 (.mov (kT 9)),
 kO 59 (.call 30 [.tmp 55,.tmp 57,.tmp 58]),
 kO 53 (.mov (kT 59)),
 kO 60 (.ext (kT 53) 0),
 kO 61 (.ext (kT 53) 1),
 kO 12 (.alloc 25 [kZ,kN,kN]),
 ⟨none,.store 3 (kT 12) (kT 60),none⟩,
 kO 13 (.mov (kT 61))]
 [⟨kF,kF,fL0,fL0⟩,
 ⟨kE,kF,fL0,fL17⟩,
 ⟨kF,kE,fL0,fL17⟩,
 ⟨kE,kF,fL17,fL24⟩,
 ⟨kF,kE,fL0,fL24⟩,
 ⟨kE,kF,fL24,fL5⟩,
 ⟨kF,kF,fL5,fL5⟩,
 ⟨kF,kF,fL5,fL5⟩,
 ⟨kF,kE,fL5,fL20⟩,
 ⟨kF,kE,fL0,fL5⟩,
 ⟨kE,kF,fL5,fL20⟩,
 ⟨kF,kF,fL20,fL20⟩]
 fL41)
 (.seq (.seq (.draw [kO 62 (.bK 3 (kT 10)),
 kO 63 (.mov (kT 11)),
 kO 64 (.bK 3 (kT 7)),
 kO 65 (.mov (kT 9)),
 kO 66 (.cZ 1 (kT 65) (kC 0)),
 kO 67 (.aQ (kT 66)),
 kO 68 (.call 46 [.tmp 64,.tmp 67]),
 kO 69 (.call 43 [.tmp 62,.tmp 63,.tmp 68]),
 kO 70 (.not (kT 69)),
 kO 71 (.mov (kT 70)),
 ⟨some 72,.bK 3 (kT 12),(some (71,kF))⟩,
 ⟨some 73,.mov (kT 13),(some (71,kF))⟩,
 ⟨some 74,.bK 3 (kT 7),(some (71,kF))⟩,
 ⟨some 75,.bK 3 (kT 8),(some (71,kF))⟩,
 ⟨some 76,.mov (kT 9),(some (71,kF))⟩,
 ⟨some 77,.call 47 [.tmp 74,.tmp 75,.tmp 76],(some (71,kF))⟩,
 ⟨some 78,.call 43 [.tmp 72,.tmp 73,.tmp 77],(some (71,kF))⟩,
 ⟨some 79,.not (kT 78),(some (71,kF))⟩,
 kO 80 (.pick (kT 71) (.const (.bool kE)) (kT 79))]
 [⟨kF,kE,fL3,fL42⟩,
 ⟨kF,kE,fL3,fL42⟩,
 ⟨kF,kF,fL3,fL3⟩,
 ⟨kF,kF,fL3,fL3⟩,
 ⟨kF,kF,fL3,fL3⟩,
 ⟨kF,kF,fL3,fL3⟩,
 ⟨kE,kF,fL3,fL42⟩,
 ⟨kE,kF,fL42,fL18⟩,
 ⟨kF,kF,fL18,fL18⟩,
 ⟨kF,kF,fL18,fL18⟩,
 ⟨kF,kE,fL18,fL43⟩,
 ⟨kF,kE,fL18,fL43⟩,
 ⟨kF,kF,fL18,fL18⟩,
 ⟨kF,kF,fL18,fL18⟩,
 ⟨kF,kF,fL18,fL18⟩,
 ⟨kE,kF,fL18,fL43⟩,
 ⟨kE,kF,fL43,fL36⟩,
 ⟨kF,kF,fL36,fL36⟩,
 ⟨kF,kF,fL36,fL36⟩])
 (.cond (kT 80) (.seq (.ops [kO 6 (.mov (.const (.bool kF)))])
 .ret)
 .skip))
 (.seq (.ops [kO 81 (.mov (kT 9)),
 kO 82 (.cZ 1 (kT 81) (kC 0)),
 kO 83 (.aQ (kT 82)),
 kO 84 (.Jq 1 (kT 83) none (some (kC 9)) (some (kC 9))),
 kO 14 (.mov (kT 84))])
 (.seq (.ops [kO 85 (.fP 3 1 [kZ] [(0,1,(kC 10))]),
 kO 86 (.mov (kT 9)),
 kO 87 (.cZ 1 (kT 86) (kC 0)),
 kO 88 (.aQ (kT 87)),
 kO 89 (.Jq 1 (kT 88) (some (kC 1)) none none),
 kO 90 (.append 3 1 8 (kT 85) (kT 89)),
 kO 15 (.mov (kT 90))])
 (.seq (.ops [kO 91 (.mov (kT 14)),
 kO 92 (.fP 22 1 [kN] [(0,1,(kT 91))]),
 kO 93 (.mov (kT 9)),
 kO 94 (.Jq 1 (kT 93) (some (kC 1)) none none),
 kO 95 (.append 22 1 24 (kT 92) (kT 94)),
 kO 16 (.mov (kT 95))])
 (.seq (.ops [kO 96 (.mov (kT 15)),
 kO 97 (.fP 22 1 [kN] [(0,1,(kT 96))]),
 kO 98 (.mov (kT 9)),
 kO 99 (.Jq 1 (kT 98) (some (kC 1)) none none),
 kO 100 (.append 22 1 24 (kT 97) (kT 99)),
 kO 17 (.mov (kT 100))])
 (.seq (.ops [kO 102 (.bK 3 (kT 7)),
 kO 103 (.call 18 [.tmp 102]),
 kO 104 (.mov (kT 14)),
 kO 105 (.call 29 [.tmp 103,.tmp 104]),
 kO 101 (.mov (kT 105)),
 kO 106 (.ext (kT 101) 0),
 kO 107 (.ext (kT 101) 1),
 kO 18 (.alloc 25 [kZ,kN,kN]),
 ⟨none,.store 3 (kT 18) (kT 106),none⟩,
 kO 19 (.mov (kT 107))])
 (.seq (.ops [kO 109 (.bK 3 (kT 7)),
 kO 110 (.call 18 [.tmp 109]),
 kO 111 (.mov (kT 15)),
 kO 112 (.call 29 [.tmp 110,.tmp 111]),
 kO 108 (.mov (kT 112)),
 kO 113 (.ext (kT 108) 0),
 kO 114 (.ext (kT 108) 1),
 kO 20 (.alloc 25 [kZ,kN,kN]),
 ⟨none,.store 3 (kT 20) (kT 113),none⟩,
 kO 21 (.mov (kT 114))])
 (.seq (.ahead [kO 116 (.bK 3 (kT 7)),
 kO 117 (.call 18 [.tmp 116]),
 kO 118 (.bK 3 (kT 8)),
 kO 119 (.call 18 [.tmp 118]),
 kO 120 (.mov (kT 9)),
 kO 121 (.Jq 1 (kT 120) none (some (kC 9)) (some (kC 9))),
 kO 122 (.call 30 [.tmp 117,.tmp 119,.tmp 121]),
 kO 115 (.mov (kT 122)),
 kO 123 (.ext (kT 115) 0),
 kO 124 (.ext (kT 115) 1),
 kO 22 (.alloc 25 [kZ,kN,kN]),
 ⟨none,.store 3 (kT 22) (kT 123),none⟩,
 kO 23 (.mov (kT 124))]
 [⟨kF,kF,fL6,fL6⟩,
 ⟨kE,kF,fL6,fL50⟩,
 ⟨kF,kE,fL6,fL50⟩,
 ⟨kE,kF,fL50,fL44⟩,
 ⟨kF,kE,fL6,fL44⟩,
 ⟨kF,kE,fL6,fL44⟩,
 ⟨kE,kF,fL44,fL27⟩,
 ⟨kF,kF,fL27,fL27⟩,
 ⟨kF,kF,fL27,fL27⟩,
 ⟨kF,kE,fL27,fL45⟩,
 ⟨kF,kE,fL6,fL27⟩,
 ⟨kE,kF,fL27,fL45⟩,
 ⟨kF,kF,fL45,fL45⟩]
 [kF,kF,kF,kF,kF,kF,kF,kF,kF,kF,kE,kF,kF])
 (.seq (.ahead [kO 126 (.bK 3 (kT 7)),
 kO 127 (.call 18 [.tmp 126]),
 kO 128 (.bK 3 (kT 8)),
 kO 129 (.call 18 [.tmp 128]),
 kO 130 (.mov (kT 16)),
 kO 131 (.call 30 [.tmp 127,.tmp 129,.tmp 130]),
 kO 125 (.mov (kT 131)),
 kO 132 (.ext (kT 125) 0),
 kO 133 (.ext (kT 125) 1),
 kO 24 (.alloc 25 [kZ,kN,kN]),
 ⟨none,.store 3 (kT 24) (kT 132),none⟩,
 kO 25 (.mov (kT 133))]
 [⟨kF,kF,fL0,fL0⟩,
 ⟨kE,kF,fL0,fL17⟩,
 ⟨kF,kE,fL0,fL17⟩,
 ⟨kE,kF,fL17,fL24⟩,
 ⟨kF,kE,fL0,fL24⟩,
 ⟨kE,kF,fL24,fL5⟩,
 ⟨kF,kF,fL5,fL5⟩,
 ⟨kF,kF,fL5,fL5⟩,
 ⟨kF,kE,fL5,fL20⟩,
 ⟨kF,kE,fL0,fL5⟩,
 ⟨kE,kF,fL5,fL20⟩,
 ⟨kF,kF,fL20,fL20⟩]
 fL41)
 (.seq (.ahead [kO 135 (.bK 3 (kT 7)),
 kO 136 (.call 18 [.tmp 135]),
 kO 137 (.bK 3 (kT 8)),
 kO 138 (.call 18 [.tmp 137]),
 kO 139 (.mov (kT 17)),
 kO 140 (.call 30 [.tmp 136,.tmp 138,.tmp 139]),
 kO 134 (.mov (kT 140)),
 kO 141 (.ext (kT 134) 0),
 kO 142 (.ext (kT 134) 1),
 kO 26 (.alloc 25 [kZ,kN,kN]),
 ⟨none,.store 3 (kT 26) (kT 141),none⟩,
 kO 27 (.mov (kT 142))]
 [⟨kF,kF,fL0,fL0⟩,
 ⟨kE,kF,fL0,fL17⟩,
 ⟨kF,kE,fL0,fL17⟩,
 ⟨kE,kF,fL17,fL24⟩,
 ⟨kF,kE,fL0,fL24⟩,
 ⟨kE,kF,fL24,fL5⟩,
 ⟨kF,kF,fL5,fL5⟩,
 ⟨kF,kF,fL5,fL5⟩,
 ⟨kF,kE,fL5,fL20⟩,
 ⟨kF,kE,fL0,fL5⟩,
 ⟨kE,kF,fL5,fL20⟩,
 ⟨kF,kF,fL20,fL20⟩]
 fL41)
 (.seq (.ahead [kO 144 (.bK 3 (kT 7)),
 kO 145 (.call 18 [.tmp 144]),
 kO 146 (.bK 3 (kT 4)),
 kO 147 (.bN 0 (kT 7)),
 kO 148 (.aQ (kT 147)),
 kO 149 (kA .sub (kC 5) (kT 148)),
 kO 150 (.call 37 [.tmp 146,.tmp 149,(kC 5)]),
 kO 151 (.call 18 [.tmp 150]),
 kO 152 (.mov (kT 9)),
 kO 153 (.call 30 [.tmp 145,.tmp 151,.tmp 152]),
 kO 143 (.mov (kT 153)),
 kO 154 (.ext (kT 143) 0),
 kO 155 (.ext (kT 143) 1),
 kO 28 (.alloc 25 [kZ,kN,kN]),
 ⟨none,.store 3 (kT 28) (kT 154),none⟩,
 kO 29 (.mov (kT 155))]
 [⟨kF,kF,fL4,fL4⟩,
 ⟨kE,kF,fL4,fL33⟩,
 ⟨kF,kE,fL4,fL33⟩,
 ⟨kF,kE,fL4,fL33⟩,
 ⟨kF,kE,fL4,fL33⟩,
 ⟨kF,kE,fL4,fL33⟩,
 ⟨kE,kF,fL33,fL55⟩,
 ⟨kE,kF,fL55,fL51⟩,
 ⟨kF,kE,fL4,fL51⟩,
 ⟨kE,kF,fL51,fL28⟩,
 ⟨kF,kF,fL28,fL28⟩,
 ⟨kF,kF,fL28,fL28⟩,
 ⟨kF,kE,fL28,fL46⟩,
 ⟨kF,kE,fL4,fL28⟩,
 ⟨kE,kF,fL28,fL46⟩,
 ⟨kF,kF,fL46,fL46⟩]
 [kF,kF,kF,kF,kF,kF,kF,kF,kF,kF,kF,kF,kF,kE,kF,kF])
 (.seq (.ops [kO 156 (.mov (kT 19)),
 kO 157 (kA .eql (kT 156) (kC 1)),
 kO 158 (.mov (kT 157)),
 ⟨some 159,.mov (kT 21),(some (158,kE))⟩,
 ⟨some 160,kA .eql (kT 159) (kC 1),(some (158,kE))⟩,
 kO 161 (.pick (kT 158) (kT 160) (.const (.bool kF))),
 kO 162 (.mov (kT 161)),
 ⟨some 163,.mov (kT 23),(some (162,kE))⟩,
 ⟨some 164,kA .eql (kT 163) (kC 1),(some (162,kE))⟩,
 kO 165 (.pick (kT 162) (kT 164) (.const (.bool kF))),
 kO 166 (.mov (kT 165)),
 ⟨some 167,.mov (kT 25),(some (166,kE))⟩,
 ⟨some 168,kA .eql (kT 167) (kC 1),(some (166,kE))⟩,
 kO 169 (.pick (kT 166) (kT 168) (.const (.bool kF))),
 kO 170 (.mov (kT 169)),
 ⟨some 171,.mov (kT 27),(some (170,kE))⟩,
 ⟨some 172,kA .eql (kT 171) (kC 1),(some (170,kE))⟩,
 kO 173 (.pick (kT 170) (kT 172) (.const (.bool kF))),
 kO 174 (.mov (kT 173)),
 ⟨some 175,.mov (kT 29),(some (174,kE))⟩,
 ⟨some 176,kA .eql (kT 175) (kC 1),(some (174,kE))⟩,
 kO 177 (.pick (kT 174) (kT 176) (.const (.bool kF))),
 kO 178 (.mov (kT 177)),
 ⟨some 179,.bK 3 (kT 18),(some (178,kE))⟩,
 ⟨some 180,.call 36 [.tmp 179],(some (178,kE))⟩,
 kO 181 (.pick (kT 178) (kT 180) (.const (.bool kF))),
 kO 182 (.mov (kT 181)),
 ⟨some 183,.bK 3 (kT 20),(some (182,kE))⟩,
 ⟨some 184,.call 36 [.tmp 183],(some (182,kE))⟩,
 kO 185 (.pick (kT 182) (kT 184) (.const (.bool kF))),
 kO 186 (.mov (kT 185)),
 ⟨some 187,.bK 3 (kT 22),(some (186,kE))⟩,
 ⟨some 188,.call 36 [.tmp 187],(some (186,kE))⟩,
 kO 189 (.pick (kT 186) (kT 188) (.const (.bool kF))),
 kO 190 (.mov (kT 189)),
 ⟨some 191,.bK 3 (kT 24),(some (190,kE))⟩,
 ⟨some 192,.call 36 [.tmp 191],(some (190,kE))⟩,
 kO 193 (.pick (kT 190) (kT 192) (.const (.bool kF))),
 kO 194 (.mov (kT 193)),
 ⟨some 195,.bK 3 (kT 26),(some (194,kE))⟩,
 ⟨some 196,.call 36 [.tmp 195],(some (194,kE))⟩,
 kO 197 (.pick (kT 194) (kT 196) (.const (.bool kF))),
 kO 198 (.mov (kT 197)),
 ⟨some 199,.bK 3 (kT 28),(some (198,kE))⟩,
 ⟨some 200,.call 36 [.tmp 199],(some (198,kE))⟩,
 kO 201 (.pick (kT 198) (kT 200) (.const (.bool kF))),
 kO 202 (.mov (kT 201)),
 ⟨some 203,.call 21 [],(some (202,kE))⟩,
 kO 204 (.pick (kT 202) (kT 203) (.const (.bool kF))),
 kO 6 (.mov (kT 204))])
 .ret)))))))))))))))))
theorem enter8 (hl : xs.length ≤ 205)(w : wq E 205 none c8 (bM xs) h [] (bU E [.tmp 6] Q)) : aJ E 8 xs h Q :=
  aJ.bV (fn := Try.f8) (bY Try.func8) (code := Try.f8.body.get rfl) rfl rfl rfl (by kernel_rfl) rfl (fun _ => rfl) hl w
theorem can8 : callable E 8 = true := aV Try.func8 rfl rfl
def c17 : C := (.seq (.ops [kO 1 (.box 25 (kT 0)),
 kO 2 (.alloc 26 [kZ,kN,kN])])
 (.seq (.ahead [kO 6 (.bN 0 (kT 1)),
 kO 7 (.aQ (kT 6)),
 kO 8 (.bN 1 (kT 1)),
 kO 9 (.aQ (kT 8)),
 kO 10 (.call 49 [.tmp 9,(kC 13)]),
 kO 11 (.iX [kZ,kN,kN] [(0,1,(kT 7)),(1,1,(kT 10))]),
 kO 3 (.alloc 26 [kZ,kN,kN]),
 ⟨none,.store 3 (kT 3) (kT 11),none⟩]
 [⟨kF,kE,fL7,fL19⟩,
 ⟨kF,kE,fL7,fL19⟩,
 ⟨kF,kF,fL7,fL7⟩,
 ⟨kF,kF,fL7,fL7⟩,
 ⟨kE,kF,fL7,fL19⟩,
 ⟨kF,kF,fL19,fL19⟩,
 ⟨kF,kE,fL7,fL19⟩,
 ⟨kE,kF,fL19,fL56⟩]
 fL57)
 (.seq (.seq (.ops [kO 4 (.mov (kC 0))])
 (.block 0 (.loop (.seq (.seq (.ops [kO 12 (.mov (kT 4)),
 kO 13 (.bN 2 (kT 1)),
 kO 14 (.aQ (kT 13)),
 kO 15 (.dX (kT 14)),
 kO 16 (kA .lss (kT 12) (kT 15)),
 kO 17 (.mov (kT 16)),
 ⟨some 18,.mov (kT 4),(some (17,kE))⟩,
 ⟨some 19,kA .leq (kT 18) (kC 12),(some (17,kE))⟩,
 kO 20 (.pick (kT 17) (kT 19) (.const (.bool kF)))])
 (.cond (kT 20) .skip
 (.exit 0)))
 (.seq (.block 1 (.seq (.ops [kO 23 (.bN 2 (kT 3)),
 kO 24 (.aQ (kT 23)),
 kO 5 (.mov (kT 24))])
 (.ops [kO 25 (.mov (kT 5)),
 kO 26 (.bN 2 (kT 1)),
 kO 27 (.aQ (kT 26)),
 kO 28 (.mov (kT 4)),
 kO 29 (.cZ 1 (kT 27) (kT 28)),
 kO 30 (.aQ (kT 29)),
 kO 31 (.call 49 [.tmp 30,(kC 26)]),
 kO 32 (.fP 22 1 [kN] [(0,1,(kT 31))]),
 kO 33 (.append 22 1 24 (kT 25) (kT 32)),
 kO 34 (.bN 2 (kT 3)),
 ⟨none,.store 1 (kT 34) (kT 33),none⟩])))
 (.ops [kO 21 (.mov (kT 4)),
 kO 22 (kA .add (kT 21) (kC 1)),
 kO 4 (.mov (kT 22))]))))))
 (.seq (.ops [kO 35 (.bK 3 (kT 3)),
 ⟨none,.store 3 (kT 2) (kT 35),none⟩])
 .ret))))
theorem enter17 (hl : xs.length ≤ 36)(w : wq E 36 none c17 (bM xs) h [] (bU E [.cell 2 26] Q)) : aJ E 17 xs h Q :=
  aJ.bV (fn := Try.f17) (bY Try.func17) (code := Try.f17.body.get rfl) rfl rfl rfl (by kernel_rfl) rfl (fun _ => rfl) hl w
theorem can17 : callable E 17 = true := aV Try.func17 rfl rfl
def c18 : C := (.seq (.ops [kO 1 (.box 26 (kT 0)),
 kO 2 (.alloc 25 [kZ,kN,kN])])
 (.seq (.ahead [kO 6 (.bN 0 (kT 1)),
 kO 7 (.aQ (kT 6)),
 kO 8 (.bN 1 (kT 1)),
 kO 9 (.aQ (kT 8)),
 kO 10 (.call 49 [.tmp 9,(kC 13)]),
 kO 11 (.iX [kZ,kN,kN] [(0,1,(kT 7)),(1,1,(kT 10))]),
 kO 3 (.alloc 25 [kZ,kN,kN]),
 ⟨none,.store 3 (kT 3) (kT 11),none⟩]
 [⟨kF,kE,fL7,fL19⟩,
 ⟨kF,kE,fL7,fL19⟩,
 ⟨kF,kF,fL7,fL7⟩,
 ⟨kF,kF,fL7,fL7⟩,
 ⟨kE,kF,fL7,fL19⟩,
 ⟨kF,kF,fL19,fL19⟩,
 ⟨kF,kE,fL7,fL19⟩,
 ⟨kE,kF,fL19,fL56⟩]
 fL57)
 (.seq (.seq (.ops [kO 4 (.mov (kC 0))])
 (.block 0 (.loop (.seq (.seq (.ops [kO 12 (.mov (kT 4)),
 kO 13 (.bN 2 (kT 1)),
 kO 14 (.aQ (kT 13)),
 kO 15 (.dX (kT 14)),
 kO 16 (kA .lss (kT 12) (kT 15)),
 kO 17 (.mov (kT 16)),
 ⟨some 18,.mov (kT 4),(some (17,kE))⟩,
 ⟨some 19,kA .leq (kT 18) (kC 12),(some (17,kE))⟩,
 kO 20 (.pick (kT 17) (kT 19) (.const (.bool kF)))])
 (.cond (kT 20) .skip
 (.exit 0)))
 (.seq (.block 1 (.seq (.ops [kO 23 (.bN 2 (kT 3)),
 kO 24 (.aQ (kT 23)),
 kO 5 (.mov (kT 24))])
 (.ops [kO 25 (.mov (kT 5)),
 kO 26 (.bN 2 (kT 1)),
 kO 27 (.aQ (kT 26)),
 kO 28 (.mov (kT 4)),
 kO 29 (.cZ 1 (kT 27) (kT 28)),
 kO 30 (.aQ (kT 29)),
 kO 31 (.call 49 [.tmp 30,(kC 26)]),
 kO 32 (.fP 22 1 [kN] [(0,1,(kT 31))]),
 kO 33 (.append 22 1 24 (kT 25) (kT 32)),
 kO 34 (.bN 2 (kT 3)),
 ⟨none,.store 1 (kT 34) (kT 33),none⟩])))
 (.ops [kO 21 (.mov (kT 4)),
 kO 22 (kA .add (kT 21) (kC 1)),
 kO 4 (.mov (kT 22))]))))))
 (.seq (.ops [kO 35 (.bK 3 (kT 3)),
 ⟨none,.store 3 (kT 2) (kT 35),none⟩])
 .ret))))
theorem enter18 (hl : xs.length ≤ 36)(w : wq E 36 none c18 (bM xs) h [] (bU E [.cell 2 25] Q)) : aJ E 18 xs h Q :=
  aJ.bV (fn := Try.f18) (bY Try.func18) (code := Try.f18.body.get rfl) rfl rfl rfl (by kernel_rfl) rfl (fun _ => rfl) hl w
theorem can18 : callable E 18 = true := aV Try.func18 rfl rfl
def c20 : C := (.seq (.ops [kO 1 (.box 25 (kT 0)),
 kO 2 (.mov (kC 0))])
 (.seq (.ops [kO 7 (.bN 1 (kT 1)),
 kO 8 (.aQ (kT 7)),
 kO 9 (.dX (kT 8)),
 kO 3 (.alloc 3 [kZ]),
 ⟨none,.store 1 (kT 3) (kT 9),none⟩])
 (.seq (.seq (.ops [kO 10 (.bN 0 (kT 1)),
 kO 11 (.aQ (kT 10)),
 kO 12 (kA .lss (kT 11) (kC 2)),
 kO 13 (.mov (kT 12)),
 ⟨some 14,.bN 0 (kT 1),(some (13,kF))⟩,
 ⟨some 15,.aQ (kT 14),(some (13,kF))⟩,
 ⟨some 16,kA .gtr (kT 15) (kC 5),(some (13,kF))⟩,
 kO 17 (.pick (kT 13) (.const (.bool kE)) (kT 16)),
 kO 18 (.mov (kT 17)),
 ⟨some 19,.aQ (kT 3),(some (18,kF))⟩,
 ⟨some 20,kA .lss (kT 19) (kC 1),(some (18,kF))⟩,
 kO 21 (.pick (kT 18) (.const (.bool kE)) (kT 20)),
 kO 22 (.mov (kT 21)),
 ⟨some 23,.aQ (kT 3),(some (22,kF))⟩,
 ⟨some 24,kA .gtr (kT 23) (kC 12),(some (22,kF))⟩,
 kO 25 (.pick (kT 22) (.const (.bool kE)) (kT 24)),
 kO 26 (.mov (kT 25)),
 ⟨some 27,.bN 1 (kT 1),(some (26,kF))⟩,
 ⟨some 28,.aQ (kT 27),(some (26,kF))⟩,
 ⟨some 29,.call 57 [.tmp 28],(some (26,kF))⟩,
 ⟨some 30,.not (kT 29),(some (26,kF))⟩,
 kO 31 (.pick (kT 26) (.const (.bool kE)) (kT 30)),
 kO 32 (.mov (kT 31)),
 ⟨some 33,.bN 2 (kT 1),(some (32,kF))⟩,
 ⟨some 34,.aQ (kT 33),(some (32,kF))⟩,
 ⟨some 35,.dX (kT 34),(some (32,kF))⟩,
 ⟨some 36,.aQ (kT 3),(some (32,kF))⟩,
 ⟨some 37,kA .neq (kT 35) (kT 36),(some (32,kF))⟩,
 kO 38 (.pick (kT 32) (.const (.bool kE)) (kT 37))])
 (.cond (kT 38) (.seq (.ops [kO 2 (.mov (kC 50))])
 .ret)
 .skip))
 (.seq (.ops [kO 39 (.func (.func 58) [] [.tmp 3]),
 kO 4 (.mov (kT 39))])
 (.seq (.seq (.ops [kO 40 (.bN 2 (kT 1)),
 kO 41 (.aQ (kT 40)),
 kO 42 (.dX (kT 41)),
 kO 43 (.mov (kC 0))])
 (.block 0 (.loop (.seq (.ops [kO 44 (kA .lss (kT 43) (kT 42))])
 (.seq (.cond (kT 44) .skip
 (.exit 0))
 (.seq (.block 1 (.seq (.ops [kO 45 (.mov (kT 43)),
 kO 46 (.cZ 1 (kT 41) (kT 43)),
 kO 47 (.aQ (kT 46)),
 kO 5 (.mov (kT 45)),
 kO 6 (.mov (kT 47))])
 (.seq (.ops [kO 48 (.mov (kT 6)),
 kO 49 (.dX (kT 48)),
 kO 50 (.bN 0 (kT 1)),
 kO 51 (.aQ (kT 50)),
 kO 52 (kA .neq (kT 49) (kT 51)),
 kO 53 (.mov (kT 52)),
 ⟨some 54,.mov (kT 6),(some (53,kF))⟩,
 ⟨some 55,.mov (kT 4),(some (53,kF))⟩,
 ⟨some 56,.call 59 [.tmp 54,.tmp 55],(some (53,kF))⟩,
 kO 57 (.pick (kT 53) (.const (.bool kE)) (kT 56)),
 kO 58 (.mov (kT 57)),
 ⟨some 59,.bN 1 (kT 1),(some (58,kF))⟩,
 ⟨some 60,.aQ (kT 59),(some (58,kF))⟩,
 ⟨some 61,.mov (kT 6),(some (58,kF))⟩,
 ⟨some 62,.cZ 1 (kT 61) (kC 0),(some (58,kF))⟩,
 ⟨some 63,.aQ (kT 62),(some (58,kF))⟩,
 ⟨some 64,.cZ 1 (kT 60) (kT 63),(some (58,kF))⟩,
 ⟨some 65,.aQ (kT 64),(some (58,kF))⟩,
 ⟨some 66,.bN 1 (kT 1),(some (58,kF))⟩,
 ⟨some 67,.aQ (kT 66),(some (58,kF))⟩,
 ⟨some 68,.mov (kT 5),(some (58,kF))⟩,
 ⟨some 69,.cZ 1 (kT 67) (kT 68),(some (58,kF))⟩,
 ⟨some 70,.aQ (kT 69),(some (58,kF))⟩,
 ⟨some 71,kA .neq (kT 65) (kT 70),(some (58,kF))⟩,
 kO 72 (.pick (kT 58) (.const (.bool kE)) (kT 71))])
 (.cond (kT 72) (.seq (.ops [kO 2 (.mov (kC 50))])
 .ret)
 .skip))))
 (.ops [kO 73 (kA .add (kT 43) (kC 1)),
 kO 43 (.mov (kT 73))])))))))
 (.seq (.ops [kO 2 (.mov (kC 0))])
 .ret))))))
theorem enter20 (hl : xs.length ≤ 74)(w : wq E 74 none c20 (bM xs) h [] (bU E [.tmp 2] Q)) : aJ E 20 xs h Q :=
  aJ.bV (fn := Try.f20) (bY Try.func20) (code := Try.f20.body.get rfl) rfl rfl rfl (by kernel_rfl) rfl (fun _ => rfl) hl w
theorem can20 : callable E 20 = true := aV Try.func20 rfl rfl
def c21 : C := (.seq (.ops [kO 0 (.mov (.const (.bool kF)))])
 (.seq (.ops [kO 15 (.call 22 []),
 kO 1 (.alloc 25 [kZ,kN,kN]),
 ⟨none,.store 3 (kT 1) (kT 15),none⟩])
 (.seq (.ops [kO 17 (.bK 3 (kT 1)),
 kO 18 (.call 24 [.tmp 17,(kC 8)]),
 kO 16 (.mov (kT 18)),
 kO 19 (.ext (kT 16) 0),
 kO 20 (.ext (kT 16) 1),
 kO 2 (.mov (kT 19)),
 kO 3 (.mov (kT 20))])
 (.seq (.ops [kO 22 (.fP 3 2 [kZ,kZ] [(0,1,(kC 0)),(1,1,(kC 1))]),
 kO 23 (.call 50 [(kC 2),(.const kN),.tmp 22]),
 kO 21 (.mov (kT 23)),
 kO 24 (.ext (kT 21) 0),
 kO 25 (.ext (kT 21) 1),
 kO 4 (.alloc 25 [kZ,kN,kN]),
 ⟨none,.store 3 (kT 4) (kT 24),none⟩,
 kO 5 (.mov (kT 25))])
 (.seq (.ops [kO 27 (.bK 3 (kT 1)),
 kO 28 (.call 28 [.tmp 27,(kC 2),(kC 0)]),
 kO 26 (.mov (kT 28)),
 kO 29 (.ext (kT 26) 0),
 kO 30 (.ext (kT 26) 1),
 kO 6 (.alloc 25 [kZ,kN,kN]),
 ⟨none,.store 3 (kT 6) (kT 29),none⟩,
 kO 7 (.mov (kT 30))])
 (.seq (.ops [kO 32 (.bK 3 (kT 1)),
 kO 33 (.call 35 [.tmp 32,(kC 1)]),
 kO 31 (.mov (kT 33)),
 kO 34 (.ext (kT 31) 0),
 kO 35 (.ext (kT 31) 1),
 kO 36 (.ext (kT 31) 2),
 kO 8 (.mov (kT 34)),
 kO 9 (.mov (kT 35)),
 kO 10 (.mov (kT 36))])
 (.seq (.ops [kO 38 (.bK 3 (kT 4)),
 kO 39 (.call 33 [.tmp 38]),
 kO 37 (.mov (kT 39)),
 kO 40 (.ext (kT 37) 0),
 kO 41 (.ext (kT 37) 1),
 kO 42 (.ext (kT 37) 2),
 kO 43 (.ext (kT 37) 3),
 kO 11 (.mov (kT 40)),
 kO 12 (.mov (kT 41)),
 kO 13 (.mov (kT 42)),
 kO 14 (.mov (kT 43))])
 (.seq (.ops [kO 44 (.bK 3 (kT 1)),
 kO 45 (.call 17 [.tmp 44]),
 kO 46 (.call 60 []),
 kO 47 (.call 41 [.tmp 45,.tmp 46]),
 kO 48 (.mov (kT 47)),
 ⟨some 49,.mov (kT 3),(some (48,kE))⟩,
 ⟨some 50,kA .eql (kT 49) (kC 0),(some (48,kE))⟩,
 kO 51 (.pick (kT 48) (kT 50) (.const (.bool kF))),
 kO 52 (.mov (kT 51)),
 ⟨some 53,.mov (kT 2),(some (52,kE))⟩,
 ⟨some 54,.fP 3 8 [kZ,kZ,kZ,kZ,kZ,kZ,kZ,kZ] [(0,1,(kC 0)),(1,1,(kC 1)),(2,1,(kC 1)),(3,1,(kC 0)),(4,1,(kC 1)),(5,1,(kC 0)),(6,1,(kC 0)),(7,1,(kC 1))],(some (52,kE))⟩,
 ⟨some 55,.call 61 [.tmp 53,.tmp 54],(some (52,kE))⟩,
 kO 56 (.pick (kT 52) (kT 55) (.const (.bool kF))),
 kO 57 (.mov (kT 56)),
 ⟨some 58,.mov (kT 5),(some (57,kE))⟩,
 ⟨some 59,kA .eql (kT 58) (kC 0),(some (57,kE))⟩,
 kO 60 (.pick (kT 57) (kT 59) (.const (.bool kF))),
 kO 61 (.mov (kT 60)),
 ⟨some 62,.bK 3 (kT 4),(some (61,kE))⟩,
 ⟨some 63,.call 17 [.tmp 62],(some (61,kE))⟩,
 ⟨some 64,.fP 3 3 [kZ,kZ,kZ] [(0,1,(kC 0)),(1,1,(kC 0)),(2,1,(kC 1))],(some (61,kE))⟩,
 ⟨some 65,.fP 3 2 [kZ,kZ] [(0,1,(kC 1)),(1,1,(kC 2))],(some (61,kE))⟩,
 ⟨some 66,.fP 3 2 [kZ,kZ] [(0,1,(kC 1)),(1,1,(kC 1))],(some (61,kE))⟩,
 ⟨some 67,.fP 3 2 [kZ,kZ] [(0,1,(kC 2)),(1,1,(kC 2))],(some (61,kE))⟩,
 ⟨some 68,.fP 22 3 [kN,kN,kN] [(0,1,(kT 65)),(1,1,(kT 66)),(2,1,(kT 67))],(some (61,kE))⟩,
 ⟨some 69,.iX [kZ,kN,kN] [(0,1,(kC 2)),(1,1,(kT 64)),(2,1,(kT 68))],(some (61,kE))⟩,
 ⟨some 70,.call 41 [.tmp 63,.tmp 69],(some (61,kE))⟩,
 kO 71 (.pick (kT 61) (kT 70) (.const (.bool kF))),
 kO 72 (.mov (kT 71)),
 ⟨some 73,.mov (kT 7),(some (72,kE))⟩,
 ⟨some 74,kA .eql (kT 73) (kC 0),(some (72,kE))⟩,
 kO 75 (.pick (kT 72) (kT 74) (.const (.bool kF))),
 kO 76 (.mov (kT 75)),
 ⟨some 77,.bK 3 (kT 6),(some (76,kE))⟩,
 ⟨some 78,.call 17 [.tmp 77],(some (76,kE))⟩,
 ⟨some 79,.call 60 [],(some (76,kE))⟩,
 ⟨some 80,.call 41 [.tmp 78,.tmp 79],(some (76,kE))⟩,
 kO 81 (.pick (kT 76) (kT 80) (.const (.bool kF))),
 kO 82 (.mov (kT 81)),
 ⟨some 83,.mov (kT 10),(some (82,kE))⟩,
 ⟨some 84,kA .eql (kT 83) (kC 0),(some (82,kE))⟩,
 kO 85 (.pick (kT 82) (kT 84) (.const (.bool kF))),
 kO 86 (.mov (kT 85)),
 ⟨some 87,.mov (kT 9),(some (86,kE))⟩,
 kO 88 (.pick (kT 86) (kT 87) (.const (.bool kF))),
 kO 89 (.mov (kT 88)),
 ⟨some 90,.mov (kT 8),(some (89,kE))⟩,
 ⟨some 91,kA .eql (kT 90) (kC 1),(some (89,kE))⟩,
 kO 92 (.pick (kT 89) (kT 91) (.const (.bool kF))),
 kO 93 (.mov (kT 92)),
 ⟨some 94,.mov (kT 14),(some (93,kE))⟩,
 ⟨some 95,kA .eql (kT 94) (kC 0),(some (93,kE))⟩,
 kO 96 (.pick (kT 93) (kT 95) (.const (.bool kF))),
 kO 97 (.mov (kT 96)),
 ⟨some 98,.mov (kT 13),(some (97,kE))⟩,
 kO 99 (.pick (kT 97) (kT 98) (.const (.bool kF))),
 kO 100 (.mov (kT 99)),
 ⟨some 101,.mov (kT 11),(some (100,kE))⟩,
 ⟨some 102,kA .eql (kT 101) (kC 0),(some (100,kE))⟩,
 kO 103 (.pick (kT 100) (kT 102) (.const (.bool kF))),
 kO 104 (.mov (kT 103)),
 ⟨some 105,.mov (kT 12),(some (104,kE))⟩,
 ⟨some 106,kA .eql (kT 105) (kC 2),(some (104,kE))⟩,
 kO 107 (.pick (kT 104) (kT 106) (.const (.bool kF))),
 kO 108 (.mov (kT 107)),
 ⟨some 109,.iX [kZ,kN,kN] [],(some (108,kE))⟩,
 ⟨some 110,.call 20 [.tmp 109],(some (108,kE))⟩,
 ⟨some 111,kA .eql (kT 110) (kC 50),(some (108,kE))⟩,
 kO 112 (.pick (kT 108) (kT 111) (.const (.bool kF))),
 kO 0 (.mov (kT 112))])
 .ret))))))))
theorem enter21 (hl : xs.length ≤ 113)(w : wq E 113 none c21 (bM xs) h [] (bU E [.tmp 0] Q)) : aJ E 21 xs h Q :=
  aJ.bV (fn := Try.f21) (bY Try.func21) (code := Try.f21.body.get rfl) rfl rfl rfl (by kernel_rfl) rfl (fun _ => rfl) hl w
theorem can21 : callable E 21 = true := aV Try.func21 rfl rfl
def c22 : C := (.seq (.ops [kO 0 (.alloc 25 [kZ,kN,kN])])
 (.seq (.ops [kO 1 (.fP 3 2 [kZ,kZ] [(0,1,(kC 0)),(1,1,(kC 1))]),
 kO 2 (.fP 3 2 [kZ,kZ] [(0,1,(kC 0)),(1,1,(kC 1))]),
 kO 3 (.fP 3 2 [kZ,kZ] [(0,1,(kC 1)),(1,1,(kC 0))]),
 kO 4 (.fP 22 2 [kN,kN] [(0,1,(kT 2)),(1,1,(kT 3))]),
 kO 5 (.iX [kZ,kN,kN] [(0,1,(kC 2)),(1,1,(kT 1)),(2,1,(kT 4))]),
 ⟨none,.store 3 (kT 0) (kT 5),none⟩])
 .ret))
theorem enter22 (hl : xs.length ≤ 6)(w : wq E 6 none c22 (bM xs) h [] (bU E [.cell 0 25] Q)) : aJ E 22 xs h Q :=
  aJ.bV (fn := Try.f22) (bY Try.func22) (code := Try.f22.body.get rfl) rfl rfl rfl (by kernel_rfl) rfl (fun _ => rfl) hl w
theorem can22 : callable E 22 = true := aV Try.func22 rfl rfl
def c24 : C := (.seq (.ops [kO 2 (.box 25 (kT 0)),
 kO 4 (.mov (.const kN)),
 kO 5 (.mov (kC 0))])
 (.seq (.seq (.ops [kO 9 (.bK 3 (kT 2)),
 kO 10 (.call 20 [.tmp 9]),
 kO 6 (.mov (kT 10))])
 (.seq (.ops [kO 11 (.mov (kT 6)),
 kO 12 (kA .neq (kT 11) (kC 0))])
 (.cond (kT 12) (.seq (.ops [kO 13 (.mov (kT 6)),
 kO 4 (.mov (.const kN)),
 kO 5 (.mov (kT 13))])
 .ret)
 .skip)))
 (.seq (.seq (.ops [kO 14 (.mov (kT 1)),
 kO 15 (kA .lss (kT 14) (kC 0)),
 kO 16 (.mov (kT 15)),
 ⟨some 17,.mov (kT 1),(some (16,kF))⟩,
 ⟨some 18,kA .gtr (kT 17) (kC 1000),(some (16,kF))⟩,
 kO 19 (.pick (kT 16) (.const (.bool kE)) (kT 18))])
 (.cond (kT 19) (.seq (.ops [kO 4 (.mov (.const kN)),
 kO 5 (.mov (kC 1))])
 .ret)
 .skip))
 (.seq (.ops [kO 20 (.mov (kT 1)),
 kO 21 (.make 3 [kZ] 8 (kT 20) (kT 20)),
 kO 7 (.mov (kT 21))])
 (.seq (.seq (.ops [kO 22 (.mov (kT 7)),
 kO 23 (.dX (kT 22)),
 kO 24 (.mov (kC 0))])
 (.block 0 (.loop (.seq (.ops [kO 25 (kA .lss (kT 24) (kT 23))])
 (.seq (.cond (kT 25) .skip
 (.exit 0))
 (.seq (.block 1 (.seq (.ops [kO 26 (.mov (kT 24)),
 kO 8 (.mov (kT 26))])
 (.ops [kO 27 (.mov (kT 7)),
 kO 28 (.mov (kT 8)),
 kO 29 (.bK 3 (kT 2)),
 kO 30 (.mov (kT 8)),
 kO 31 (.call 62 [.tmp 29,(kC 0),.tmp 30]),
 kO 32 (.cZ 1 (kT 27) (kT 28)),
 ⟨none,.store 1 (kT 32) (kT 31),none⟩])))
 (.ops [kO 33 (kA .add (kT 24) (kC 1)),
 kO 24 (.mov (kT 33))])))))))
 (.seq (.ops [kO 34 (.mov (kT 7)),
 kO 4 (.mov (kT 34)),
 kO 5 (.mov (kC 0))])
 .ret))))))
theorem enter24 (hl : xs.length ≤ 35)(w : wq E 35 none c24 (bM xs) h [] (bU E [.tmp 4,.tmp 5] Q)) : aJ E 24 xs h Q :=
  aJ.bV (fn := Try.f24) (bY Try.func24) (code := Try.f24.body.get rfl) rfl rfl rfl (by kernel_rfl) rfl (fun _ => rfl) hl w
theorem can24 : callable E 24 = true := aV Try.func24 rfl rfl
def c28 : C := (.seq (.ops [kO 3 (.box 25 (kT 0)),
 kO 6 (.alloc 25 [kZ,kN,kN]),
 kO 7 (.mov (kC 0))])
 (.seq (.seq (.ops [kO 9 (.bK 3 (kT 3)),
 kO 10 (.call 20 [.tmp 9]),
 kO 8 (.mov (kT 10))])
 (.seq (.ops [kO 11 (.mov (kT 8)),
 kO 12 (kA .neq (kT 11) (kC 0))])
 (.cond (kT 12) (.seq (.ops [kO 13 (.iX [kZ,kN,kN] []),
 kO 14 (.mov (kT 8)),
 ⟨none,.store 3 (kT 6) (kT 13),none⟩,
 kO 7 (.mov (kT 14))])
 .ret)
 .skip)))
 (.seq (.seq (.ops [kO 15 (.mov (kT 1)),
 kO 16 (kA .lss (kT 15) (kC 1)),
 kO 17 (.mov (kT 16)),
 ⟨some 18,.mov (kT 1),(some (17,kF))⟩,
 ⟨some 19,kA .gtr (kT 18) (kC 30),(some (17,kF))⟩,
 kO 20 (.pick (kT 17) (.const (.bool kE)) (kT 19)),
 kO 21 (.mov (kT 20)),
 ⟨some 22,.mov (kT 2),(some (21,kF))⟩,
 ⟨some 23,kA .lss (kT 22) (kC 0),(some (21,kF))⟩,
 kO 24 (.pick (kT 21) (.const (.bool kE)) (kT 23)),
 kO 25 (.mov (kT 24)),
 ⟨some 26,.mov (kT 2),(some (25,kF))⟩,
 ⟨some 27,kA .gtr (kT 26) (kC 100),(some (25,kF))⟩,
 kO 28 (.pick (kT 25) (.const (.bool kE)) (kT 27))])
 (.cond (kT 28) (.seq (.ops [kO 29 (.iX [kZ,kN,kN] []),
 ⟨none,.store 3 (kT 6) (kT 29),none⟩,
 kO 7 (.mov (kC 1))])
 .ret)
 .skip))
 (.seq (.ops [kO 30 (.bK 3 (kT 3)),
 kO 31 (.mov (kT 1)),
 kO 32 (.mov (kT 2)),
 kO 33 (.call 67 [.tmp 30,.tmp 31,.tmp 32]),
 kO 34 (.call 66 [.tmp 33]),
 kO 35 (.ext (kT 34) 0),
 kO 36 (.ext (kT 34) 1),
 ⟨none,.store 3 (kT 6) (kT 35),none⟩,
 kO 7 (.mov (kT 36))])
 .ret))))
theorem enter28 (hl : xs.length ≤ 37)(w : wq E 37 none c28 (bM xs) h [] (bU E [.cell 6 25,.tmp 7] Q)) : aJ E 28 xs h Q :=
  aJ.bV (fn := Try.f28) (bY Try.func28) (code := Try.f28.body.get rfl) rfl rfl rfl (by kernel_rfl) rfl (fun _ => rfl) hl w
theorem can28 : callable E 28 = true := aV Try.func28 rfl rfl
def c29 : C := (.seq (.ops [kO 2 (.box 25 (kT 0)),
 kO 4 (.alloc 25 [kZ,kN,kN]),
 kO 5 (.mov (kC 0))])
 (.seq (.seq (.ops [kO 10 (.bK 3 (kT 2)),
 kO 11 (.call 20 [.tmp 10]),
 kO 6 (.mov (kT 11))])
 (.seq (.ops [kO 12 (.mov (kT 6)),
 kO 13 (kA .neq (kT 12) (kC 0))])
 (.cond (kT 13) (.seq (.ops [kO 14 (.iX [kZ,kN,kN] []),
 kO 15 (.mov (kT 6)),
 ⟨none,.store 3 (kT 4) (kT 14),none⟩,
 kO 5 (.mov (kT 15))])
 .ret)
 .skip)))
 (.seq (.seq (.ops [kO 16 (.mov (kT 1)),
 kO 17 (.dX (kT 16)),
 kO 18 (kA .neq (kT 17) (kC 10)),
 kO 19 (.mov (kT 18)),
 ⟨some 20,.mov (kT 1),(some (19,kF))⟩,
 ⟨some 21,.call 57 [.tmp 20],(some (19,kF))⟩,
 ⟨some 22,.not (kT 21),(some (19,kF))⟩,
 kO 23 (.pick (kT 19) (.const (.bool kE)) (kT 22))])
 (.cond (kT 23) (.seq (.ops [kO 24 (.iX [kZ,kN,kN] []),
 ⟨none,.store 3 (kT 4) (kT 24),none⟩,
 kO 5 (.mov (kC 1))])
 .ret)
 .skip))
 (.seq (.ops [kO 25 (.mov (kT 1)),
 kO 26 (.GU 10 (kT 25)),
 kO 27 (.bK 10 (kT 26)),
 kO 7 (.alloc 99 [kZ,kZ,kZ,kZ,kZ,kZ,kZ,kZ,kZ,kZ]),
 ⟨none,.store 10 (kT 7) (kT 27),none⟩])
 (.seq (.ops [kO 28 (.func (.func 68) [] [.tmp 7,.tmp 2]),
 kO 8 (.mov (kT 28))])
 (.seq (.ops [kO 29 (.func (.func 69) [] [.tmp 2]),
 kO 9 (.mov (kT 29))])
 (.seq (.ops [kO 30 (.bN 0 (kT 2)),
 kO 31 (.aQ (kT 30)),
 kO 32 (.mov (kT 8)),
 kO 33 (.mov (kT 9)),
 kO 34 (.call 70 [.tmp 31,(kC 0),.tmp 32,.tmp 33]),
 kO 35 (.call 66 [.tmp 34]),
 kO 36 (.ext (kT 35) 0),
 kO 37 (.ext (kT 35) 1),
 ⟨none,.store 3 (kT 4) (kT 36),none⟩,
 kO 5 (.mov (kT 37))])
 .ret)))))))
theorem enter29 (hl : xs.length ≤ 38)(w : wq E 38 none c29 (bM xs) h [] (bU E [.cell 4 25,.tmp 5] Q)) : aJ E 29 xs h Q :=
  aJ.bV (fn := Try.f29) (bY Try.func29) (code := Try.f29.body.get rfl) rfl rfl rfl (by kernel_rfl) rfl (fun _ => rfl) hl w
theorem can29 : callable E 29 = true := aV Try.func29 rfl rfl
def c30 : C := (.seq (.ops [kO 3 (.box 25 (kT 0)),
 kO 4 (.box 25 (kT 1)),
 kO 6 (.alloc 25 [kZ,kN,kN]),
 kO 7 (.mov (kC 0))])
 (.seq (.seq (.ops [kO 13 (.bK 3 (kT 3)),
 kO 14 (.bK 3 (kT 4)),
 kO 15 (.call 64 [.tmp 13,.tmp 14]),
 kO 8 (.mov (kT 15))])
 (.seq (.ops [kO 16 (.mov (kT 8)),
 kO 17 (kA .neq (kT 16) (kC 0))])
 (.cond (kT 17) (.seq (.ops [kO 18 (.iX [kZ,kN,kN] []),
 kO 19 (.mov (kT 8)),
 ⟨none,.store 3 (kT 6) (kT 18),none⟩,
 kO 7 (.mov (kT 19))])
 .ret)
 .skip)))
 (.seq (.ops [kO 21 (.mov (kT 2)),
 kO 22 (.call 71 [.tmp 21]),
 kO 20 (.mov (kT 22)),
 kO 23 (.ext (kT 20) 0),
 kO 24 (.ext (kT 20) 1),
 kO 9 (.alloc 102 [kZ,kZ,kZ,kZ,kZ,kZ,kZ,kZ,kZ,kZ,kZ,kZ,kZ,kZ,kZ,kZ,kZ,kZ,kZ,kZ,kZ,kZ,kZ,kZ,kZ,kZ,kZ,kZ,kZ,kZ,kZ,kZ,kZ,kZ,kZ,kZ,kZ,kZ,kZ,kZ,kZ,kZ,kZ,kZ,kZ,kZ,kZ,kZ,kZ,kZ,kZ,kZ,kZ,kZ,kZ,kZ,kZ,kZ,kZ,kZ,kZ,kZ,kZ,kZ,kZ,kZ,kZ,kZ,kZ,kZ,kZ,kZ,kZ,kZ,kZ,kZ,kZ,kZ,kZ,kZ,kZ,kZ,kZ,kZ,kZ,kZ,kZ,kZ,kZ,kZ,kZ,kZ,kZ,kZ,kZ,kZ,kZ,kZ,kZ,kZ]),
 ⟨none,.store 100 (kT 9) (kT 23),none⟩,
 kO 10 (.mov (kT 24))])
 (.seq (.seq (.ops [kO 25 (.mov (kT 10)),
 kO 26 (.not (kT 25))])
 (.cond (kT 26) (.seq (.ops [kO 27 (.iX [kZ,kN,kN] []),
 ⟨none,.store 3 (kT 6) (kT 27),none⟩,
 kO 7 (.mov (kC 1))])
 .ret)
 .skip))
 (.seq (.ops [kO 28 (.func (.func 72) [] [.tmp 9,.tmp 3,.tmp 4]),
 kO 11 (.mov (kT 28))])
 (.seq (.ops [kO 29 (.func (.func 73) [] [.tmp 3,.tmp 4]),
 kO 12 (.mov (kT 29))])
 (.seq (.ops [kO 30 (.bN 0 (kT 3)),
 kO 31 (.aQ (kT 30)),
 kO 32 (.iX [kZ,kZ] [(0,1,(kC 0)),(1,1,(kC 0))]),
 kO 33 (.mov (kT 11)),
 kO 34 (.mov (kT 12)),
 kO 35 (.call 74 [.tmp 31,.tmp 32,.tmp 33,.tmp 34]),
 kO 36 (.call 66 [.tmp 35]),
 kO 37 (.ext (kT 36) 0),
 kO 38 (.ext (kT 36) 1),
 ⟨none,.store 3 (kT 6) (kT 37),none⟩,
 kO 7 (.mov (kT 38))])
 .ret)))))))
theorem enter30 (hl : xs.length ≤ 39)(w : wq E 39 none c30 (bM xs) h [] (bU E [.cell 6 25,.tmp 7] Q)) : aJ E 30 xs h Q :=
  aJ.bV (fn := Try.f30) (bY Try.func30) (code := Try.f30.body.get rfl) rfl rfl rfl (by kernel_rfl) rfl (fun _ => rfl) hl w
theorem can30 : callable E 30 = true := aV Try.func30 rfl rfl
def c33 : C := (.seq (.ops [kO 1 (.box 25 (kT 0)),
 kO 2 (.mov (kC 0)),
 kO 3 (.mov (kC 0)),
 kO 4 (.mov (.const (.bool kF))),
 kO 5 (.mov (kC 0))])
 (.seq (.seq (.ops [kO 6 (.bK 3 (kT 1)),
 kO 7 (.call 20 [.tmp 6]),
 kO 5 (.mov (kT 7))])
 (.seq (.ops [kO 8 (.mov (kT 5)),
 kO 9 (kA .neq (kT 8) (kC 0))])
 (.cond (kT 9) (.seq (.ops [kO 10 (.mov (kT 5)),
 kO 2 (.mov (kC 0)),
 kO 3 (.mov (kC 0)),
 kO 4 (.mov (.const (.bool kF))),
 kO 5 (.mov (kT 10))])
 .ret)
 .skip)))
 (.seq (.seq (.ops [kO 3 (.mov (kC 1))])
 (.block 0 (.loop (.seq (.seq (.ops [kO 11 (.mov (kT 3)),
 kO 12 (kA .leq (kT 11) (kC 30))])
 (.cond (kT 12) .skip
 (.exit 0)))
 (.seq (.block 1 (.seq (.ops [kO 15 (.bK 3 (kT 1)),
 kO 16 (.mov (kT 3)),
 kO 17 (.call 77 [.tmp 15,(kC 60),.tmp 16])])
 (.cond (kT 17) (.seq (.ops [kO 18 (.bK 3 (kT 1)),
 kO 19 (.mov (kT 3)),
 kO 20 (.call 78 [.tmp 18,.tmp 19]),
 kO 21 (.mov (kT 3)),
 kO 2 (.mov (kT 20)),
 kO 3 (.mov (kT 21)),
 kO 4 (.mov (.const (.bool kE))),
 kO 5 (.mov (kC 0))])
 .ret)
 .skip)))
 (.ops [kO 13 (.mov (kT 3)),
 kO 14 (kA .add (kT 13) (kC 1)),
 kO 3 (.mov (kT 14))]))))))
 (.seq (.ops [kO 2 (.mov (kC 0)),
 kO 3 (.mov (kC 0)),
 kO 4 (.mov (.const (.bool kF))),
 kO 5 (.mov (kC 0))])
 .ret))))
theorem enter33 (hl : xs.length ≤ 22)(w : wq E 22 none c33 (bM xs) h [] (bU E [.tmp 2,.tmp 3,.tmp 4,.tmp 5] Q)) : aJ E 33 xs h Q :=
  aJ.bV (fn := Try.f33) (bY Try.func33) (code := Try.f33.body.get rfl) rfl rfl rfl (by kernel_rfl) rfl (fun _ => rfl) hl w
theorem can33 : callable E 33 = true := aV Try.func33 rfl rfl
def c35 : C := (.seq (.ops [kO 2 (.box 25 (kT 0)),
 kO 4 (.mov (kC 0)),
 kO 5 (.mov (.const (.bool kF))),
 kO 6 (.mov (kC 0))])
 (.seq (.seq (.ops [kO 10 (.bK 3 (kT 2)),
 kO 11 (.call 20 [.tmp 10]),
 kO 7 (.mov (kT 11))])
 (.seq (.ops [kO 12 (.mov (kT 7)),
 kO 13 (kA .neq (kT 12) (kC 0))])
 (.cond (kT 13) (.seq (.ops [kO 14 (.mov (kT 7)),
 kO 4 (.mov (kC 0)),
 kO 5 (.mov (.const (.bool kF))),
 kO 6 (.mov (kT 14))])
 .ret)
 .skip)))
 (.seq (.seq (.ops [kO 15 (.mov (kT 1)),
 kO 16 (.call 79 [.tmp 15]),
 kO 17 (.not (kT 16))])
 (.cond (kT 17) (.seq (.ops [kO 4 (.mov (kC 0)),
 kO 5 (.mov (.const (.bool kF))),
 kO 6 (.mov (kC 1))])
 .ret)
 .skip))
 (.seq (.ops [kO 19 (.bK 3 (kT 2)),
 kO 20 (.mov (kT 1)),
 kO 21 (.call 80 [.tmp 19,.tmp 20]),
 kO 18 (.mov (kT 21)),
 kO 22 (.ext (kT 18) 0),
 kO 23 (.ext (kT 18) 1),
 kO 8 (.mov (kT 22)),
 kO 9 (.mov (kT 23))])
 (.seq (.ops [kO 24 (.mov (kT 8)),
 kO 25 (.mov (kT 9)),
 kO 4 (.mov (kT 24)),
 kO 5 (.mov (kT 25)),
 kO 6 (.mov (kC 0))])
 .ret)))))
theorem enter35 (hl : xs.length ≤ 26)(w : wq E 26 none c35 (bM xs) h [] (bU E [.tmp 4,.tmp 5,.tmp 6] Q)) : aJ E 35 xs h Q :=
  aJ.bV (fn := Try.f35) (bY Try.func35) (code := Try.f35.body.get rfl) rfl rfl rfl (by kernel_rfl) rfl (fun _ => rfl) hl w
theorem can35 : callable E 35 = true := aV Try.func35 rfl rfl
def c36 : C := (.seq (.ops [kO 1 (.box 25 (kT 0)),
 kO 2 (.mov (.const (.bool kF)))])
 (.seq (.ops [kO 3 (.bN 0 (kT 1)),
 kO 4 (.aQ (kT 3)),
 kO 5 (kA .eql (kT 4) (kC 0)),
 kO 6 (.mov (kT 5)),
 ⟨some 7,.bN 1 (kT 1),(some (6,kE))⟩,
 ⟨some 8,.aQ (kT 7),(some (6,kE))⟩,
 ⟨some 9,.dX (kT 8),(some (6,kE))⟩,
 ⟨some 10,kA .eql (kT 9) (kC 0),(some (6,kE))⟩,
 kO 11 (.pick (kT 6) (kT 10) (.const (.bool kF))),
 kO 12 (.mov (kT 11)),
 ⟨some 13,.bN 2 (kT 1),(some (12,kE))⟩,
 ⟨some 14,.aQ (kT 13),(some (12,kE))⟩,
 ⟨some 15,.dX (kT 14),(some (12,kE))⟩,
 ⟨some 16,kA .eql (kT 15) (kC 0),(some (12,kE))⟩,
 kO 17 (.pick (kT 12) (kT 16) (.const (.bool kF))),
 kO 2 (.mov (kT 17))])
 .ret))
theorem enter36 (hl : xs.length ≤ 18)(w : wq E 18 none c36 (bM xs) h [] (bU E [.tmp 2] Q)) : aJ E 36 xs h Q :=
  aJ.bV (fn := Try.f36) (bY Try.func36) (code := Try.f36.body.get rfl) rfl rfl rfl (by kernel_rfl) rfl (fun _ => rfl) hl w
theorem can36 : callable E 36 = true := aV Try.func36 rfl rfl
def c37 : C := (.seq (.ops [kO 3 (.box 25 (kT 0)),
 kO 6 (.alloc 26 [kZ,kN,kN])])
 (.seq (.ops [kO 17 (.bN 1 (kT 3)),
 kO 18 (.aQ (kT 17)),
 kO 19 (.dX (kT 18)),
 kO 20 (.mov (kT 2)),
 kO 21 (.raw (.call ⟨.builtin .min,⟨[.tmp 19,.tmp 20]⟩,⟨[3,3]⟩⟩) 3),
 kO 22 (.raw (.call ⟨.builtin .max,⟨[(kC 1),.tmp 21]⟩,⟨[3,3]⟩⟩) 3),
 kO 7 (.mov (kT 22))])
 (.seq (.ops [kO 23 (.mov (kT 1)),
 kO 24 (.iX [kZ,kN,kN] [(0,1,(kT 23))]),
 kO 8 (.alloc 26 [kZ,kN,kN]),
 ⟨none,.store 3 (kT 8) (kT 24),none⟩])
 (.seq (.seq (.ops [kO 9 (.mov (kC 0))])
 (.block 0 (.loop (.seq (.seq (.ops [kO 25 (.mov (kT 9)),
 kO 26 (.mov (kT 7)),
 kO 27 (kA .lss (kT 25) (kT 26))])
 (.cond (kT 27) .skip
 (.exit 0)))
 (.seq (.block 1 (.seq (.ops [kO 10 (.mov (kC 0))])
 (.seq (.seq (.ops [kO 30 (.mov (kT 9)),
 kO 31 (.bN 1 (kT 3)),
 kO 32 (.aQ (kT 31)),
 kO 33 (.dX (kT 32)),
 kO 34 (kA .lss (kT 30) (kT 33))])
 (.cond (kT 34) (.ops [kO 35 (.bN 1 (kT 3)),
 kO 36 (.aQ (kT 35)),
 kO 37 (.mov (kT 9)),
 kO 38 (.cZ 1 (kT 36) (kT 37)),
 kO 39 (.aQ (kT 38)),
 kO 40 (.Cn .u64 (kT 39)),
 kO 41 (.ar .u64 .rem (kT 40) (.const (.int .u64 10))),
 kO 42 (.Cn .i64 (kT 41)),
 kO 10 (.mov (kT 42))])
 .skip))
 (.seq (.ops [kO 43 (.bN 1 (kT 8)),
 kO 44 (.aQ (kT 43)),
 kO 11 (.mov (kT 44))])
 (.ops [kO 45 (.mov (kT 11)),
 kO 46 (.mov (kT 10)),
 kO 47 (.fP 3 1 [kZ] [(0,1,(kT 46))]),
 kO 48 (.append 3 1 8 (kT 45) (kT 47)),
 kO 49 (.bN 1 (kT 8)),
 ⟨none,.store 1 (kT 49) (kT 48),none⟩])))))
 (.ops [kO 28 (.mov (kT 9)),
 kO 29 (kA .add (kT 28) (kC 1)),
 kO 9 (.mov (kT 29))]))))))
 (.seq (.seq (.ops [kO 12 (.mov (kC 0))])
 (.block 2 (.loop (.seq (.seq (.ops [kO 50 (.mov (kT 12)),
 kO 51 (.mov (kT 7)),
 kO 52 (kA .lss (kT 50) (kT 51))])
 (.cond (kT 52) .skip
 (.exit 2)))
 (.seq (.block 3 (.seq (.ops [kO 13 (.mov (.const kN))])
 (.seq (.seq (.ops [kO 14 (.mov (kC 0))])
 (.block 4 (.loop (.seq (.seq (.ops [kO 55 (.mov (kT 14)),
 kO 56 (.mov (kT 1)),
 kO 57 (kA .lss (kT 55) (kT 56))])
 (.cond (kT 57) .skip
 (.exit 4)))
 (.seq (.block 5 (.seq (.ops [kO 60 (.mov (kT 12)),
 kO 15 (.mov (kT 60))])
 (.seq (.seq (.ops [kO 61 (.mov (kT 12)),
 kO 62 (.bN 2 (kT 3)),
 kO 63 (.aQ (kT 62)),
 kO 64 (.dX (kT 63)),
 kO 65 (kA .lss (kT 61) (kT 64)),
 kO 66 (.mov (kT 65)),
 ⟨some 67,.mov (kT 14),(some (66,kE))⟩,
 ⟨some 68,.bN 2 (kT 3),(some (66,kE))⟩,
 ⟨some 69,.aQ (kT 68),(some (66,kE))⟩,
 ⟨some 70,.mov (kT 12),(some (66,kE))⟩,
 ⟨some 71,.cZ 1 (kT 69) (kT 70),(some (66,kE))⟩,
 ⟨some 72,.aQ (kT 71),(some (66,kE))⟩,
 ⟨some 73,.dX (kT 72),(some (66,kE))⟩,
 ⟨some 74,kA .lss (kT 67) (kT 73),(some (66,kE))⟩,
 kO 75 (.pick (kT 66) (kT 74) (.const (.bool kF)))])
 (.cond (kT 75) (.ops [kO 76 (.bN 2 (kT 3)),
 kO 77 (.aQ (kT 76)),
 kO 78 (.mov (kT 12)),
 kO 79 (.cZ 1 (kT 77) (kT 78)),
 kO 80 (.aQ (kT 79)),
 kO 81 (.mov (kT 14)),
 kO 82 (.cZ 1 (kT 80) (kT 81)),
 kO 83 (.aQ (kT 82)),
 kO 84 (.Cn .u64 (kT 83)),
 kO 85 (.mov (kT 7)),
 kO 86 (.Cn .u64 (kT 85)),
 kO 87 (.ar .u64 .rem (kT 84) (kT 86)),
 kO 88 (.Cn .i64 (kT 87)),
 kO 15 (.mov (kT 88))])
 .skip))
 (.seq (.seq (.ops [kO 89 (.mov (kT 14)),
 kO 90 (kA .eql (kT 89) (kC 0)),
 kO 91 (.mov (kT 90)),
 ⟨some 92,.bN 1 (kT 8),(some (91,kE))⟩,
 ⟨some 93,.aQ (kT 92),(some (91,kE))⟩,
 ⟨some 94,.mov (kT 15),(some (91,kE))⟩,
 ⟨some 95,.cZ 1 (kT 93) (kT 94),(some (91,kE))⟩,
 ⟨some 96,.aQ (kT 95),(some (91,kE))⟩,
 ⟨some 97,.bN 1 (kT 8),(some (91,kE))⟩,
 ⟨some 98,.aQ (kT 97),(some (91,kE))⟩,
 ⟨some 99,.mov (kT 12),(some (91,kE))⟩,
 ⟨some 100,.cZ 1 (kT 98) (kT 99),(some (91,kE))⟩,
 ⟨some 101,.aQ (kT 100),(some (91,kE))⟩,
 ⟨some 102,kA .neq (kT 96) (kT 101),(some (91,kE))⟩,
 kO 103 (.pick (kT 91) (kT 102) (.const (.bool kF)))])
 (.cond (kT 103) (.ops [kO 104 (.mov (kT 12)),
 kO 15 (.mov (kT 104))])
 .skip))
 (.ops [kO 105 (.mov (kT 13)),
 kO 106 (.mov (kT 15)),
 kO 107 (.fP 3 1 [kZ] [(0,1,(kT 106))]),
 kO 108 (.append 3 1 8 (kT 105) (kT 107)),
 kO 13 (.mov (kT 108))])))))
 (.ops [kO 58 (.mov (kT 14)),
 kO 59 (kA .add (kT 58) (kC 1)),
 kO 14 (.mov (kT 59))]))))))
 (.seq (.ops [kO 109 (.bN 2 (kT 8)),
 kO 110 (.aQ (kT 109)),
 kO 16 (.mov (kT 110))])
 (.ops [kO 111 (.mov (kT 16)),
 kO 112 (.mov (kT 13)),
 kO 113 (.fP 22 1 [kN] [(0,1,(kT 112))]),
 kO 114 (.append 22 1 24 (kT 111) (kT 113)),
 kO 115 (.bN 2 (kT 8)),
 ⟨none,.store 1 (kT 115) (kT 114),none⟩])))))
 (.ops [kO 53 (.mov (kT 12)),
 kO 54 (kA .add (kT 53) (kC 1)),
 kO 12 (.mov (kT 54))]))))))
 (.seq (.ops [kO 116 (.bK 3 (kT 8)),
 ⟨none,.store 3 (kT 6) (kT 116),none⟩])
 .ret))))))
theorem enter37 (hl : xs.length ≤ 117)(w : wq E 117 none c37 (bM xs) h [] (bU E [.cell 6 26] Q)) : aJ E 37 xs h Q :=
  aJ.bV (fn := Try.f37) (bY Try.func37) (code := Try.f37.body.get rfl) rfl rfl rfl (by kernel_rfl) rfl (fun _ => rfl) hl w
theorem can37 : callable E 37 = true := aV Try.func37 rfl rfl
def c40 : C := (.seq (.ops [kO 1 (.box 26 (kT 0)),
 kO 2 (.alloc 26 [kZ,kN,kN])])
 (.seq (.ops [kO 17 (.bK 3 (kT 1)),
 kO 18 (.bN 1 (kT 1)),
 kO 19 (.aQ (kT 18)),
 kO 20 (.call 81 [.tmp 17,.tmp 19]),
 kO 3 (.mov (kT 20))])
 (.seq (.block 0 (.loop (.block 1 (.seq (.ops [kO 21 (.bK 3 (kT 1)),
 kO 22 (.mov (kT 3)),
 kO 23 (.call 81 [.tmp 21,.tmp 22]),
 kO 4 (.mov (kT 23))])
 (.seq (.seq (.ops [kO 24 (.mov (kT 4)),
 kO 25 (.call 82 [.tmp 24]),
 kO 26 (.mov (kT 3)),
 kO 27 (.call 82 [.tmp 26]),
 kO 28 (kA .eql (kT 25) (kT 27))])
 (.cond (kT 28) (.exit 0)
 .skip))
 (.ops [kO 29 (.mov (kT 4)),
 kO 3 (.mov (kT 29))]))))))
 (.seq (.ops [kO 30 (.iC),
 kO 31 (.mov (kT 3)),
 kO 32 (.cZ 1 (kT 31) (kC 0)),
 kO 33 (.aQ (kT 32)),
 ⟨none,.raw (.insert 114 (kT 30) (kT 33) (kC 0)) 0,none⟩,
 kO 34 (.mov (kT 30)),
 kO 5 (.mov (kT 34))])
 (.seq (.ops [kO 35 (.fP 3 1 [kZ] [(0,1,(kC 0))]),
 kO 6 (.mov (kT 35))])
 (.seq (.ops [kO 36 (.bN 0 (kT 1)),
 kO 37 (.aQ (kT 36)),
 kO 38 (.iX [kZ,kN,kN] [(0,1,(kT 37))]),
 kO 7 (.alloc 26 [kZ,kN,kN]),
 ⟨none,.store 3 (kT 7) (kT 38),none⟩])
 (.seq (.seq (.ops [kO 8 (.mov (kC 0))])
 (.block 2 (.loop (.seq (.seq (.ops [kO 39 (.mov (kT 8)),
 kO 40 (.mov (kT 6)),
 kO 41 (.dX (kT 40)),
 kO 42 (kA .lss (kT 39) (kT 41))])
 (.cond (kT 42) .skip
 (.exit 2)))
 (.seq (.block 3 (.seq (.ops [kO 45 (.mov (kT 6)),
 kO 46 (.mov (kT 8)),
 kO 47 (.cZ 1 (kT 45) (kT 46)),
 kO 48 (.aQ (kT 47)),
 kO 9 (.mov (kT 48))])
 (.seq (.ops [kO 10 (.mov (.const kN))])
 (.seq (.seq (.ops [kO 11 (.mov (kC 0))])
 (.block 4 (.loop (.seq (.seq (.ops [kO 49 (.mov (kT 11)),
 kO 50 (.bN 0 (kT 1)),
 kO 51 (.aQ (kT 50)),
 kO 52 (kA .lss (kT 49) (kT 51))])
 (.cond (kT 52) .skip
 (.exit 4)))
 (.seq (.block 5 (.seq (.ops [kO 55 (.bN 2 (kT 1)),
 kO 56 (.aQ (kT 55)),
 kO 57 (.mov (kT 9)),
 kO 58 (.cZ 1 (kT 56) (kT 57)),
 kO 59 (.aQ (kT 58)),
 kO 60 (.mov (kT 11)),
 kO 61 (.cZ 1 (kT 59) (kT 60)),
 kO 62 (.aQ (kT 61)),
 kO 12 (.mov (kT 62))])
 (.seq (.seq (.ops [kO 64 (.mov (kT 5)),
 kO 65 (.mov (kT 3)),
 kO 66 (.mov (kT 12)),
 kO 67 (.cZ 1 (kT 65) (kT 66)),
 kO 68 (.aQ (kT 67)),
 kO 69 (.raw (.lookup 114 (kT 64) (kT 68) kE) 115),
 kO 63 (.mov (kT 69)),
 kO 70 (.ext (kT 63) 0),
 kO 71 (.ext (kT 63) 1),
 kO 13 (.mov (kT 70)),
 kO 14 (.mov (kT 71))])
 (.seq (.ops [kO 72 (.mov (kT 14)),
 kO 73 (.not (kT 72))])
 (.cond (kT 73) (.seq (.ops [kO 74 (.mov (kT 5)),
 kO 75 (.mov (kT 3)),
 kO 76 (.mov (kT 12)),
 kO 77 (.cZ 1 (kT 75) (kT 76)),
 kO 78 (.aQ (kT 77)),
 kO 79 (.mov (kT 6)),
 kO 80 (.dX (kT 79)),
 ⟨none,.raw (.mapUpdate 114 (kT 74) (kT 78) (kT 80)) 0,none⟩])
 (.ops [kO 81 (.mov (kT 6)),
 kO 82 (.mov (kT 12)),
 kO 83 (.fP 3 1 [kZ] [(0,1,(kT 82))]),
 kO 84 (.append 3 1 8 (kT 81) (kT 83)),
 kO 6 (.mov (kT 84))]))
 .skip)))
 (.ops [kO 85 (.mov (kT 10)),
 kO 86 (.mov (kT 5)),
 kO 87 (.mov (kT 3)),
 kO 88 (.mov (kT 12)),
 kO 89 (.cZ 1 (kT 87) (kT 88)),
 kO 90 (.aQ (kT 89)),
 kO 91 (.raw (.lookup 114 (kT 86) (kT 90) kF) 3),
 kO 92 (.fP 3 1 [kZ] [(0,1,(kT 91))]),
 kO 93 (.append 3 1 8 (kT 85) (kT 92)),
 kO 10 (.mov (kT 93))]))))
 (.ops [kO 53 (.mov (kT 11)),
 kO 54 (kA .add (kT 53) (kC 1)),
 kO 11 (.mov (kT 54))]))))))
 (.seq (.ops [kO 94 (.bN 1 (kT 7)),
 kO 95 (.aQ (kT 94)),
 kO 96 (.bN 2 (kT 7)),
 kO 97 (.aQ (kT 96)),
 kO 15 (.mov (kT 95)),
 kO 16 (.mov (kT 97))])
 (.seq (.ops [kO 98 (.mov (kT 15)),
 kO 99 (.bN 1 (kT 1)),
 kO 100 (.aQ (kT 99)),
 kO 101 (.mov (kT 9)),
 kO 102 (.cZ 1 (kT 100) (kT 101)),
 kO 103 (.aQ (kT 102)),
 kO 104 (.fP 3 1 [kZ] [(0,1,(kT 103))]),
 kO 105 (.append 3 1 8 (kT 98) (kT 104)),
 kO 106 (.bN 1 (kT 7)),
 ⟨none,.store 1 (kT 106) (kT 105),none⟩])
 (.ops [kO 107 (.mov (kT 16)),
 kO 108 (.mov (kT 10)),
 kO 109 (.fP 22 1 [kN] [(0,1,(kT 108))]),
 kO 110 (.append 22 1 24 (kT 107) (kT 109)),
 kO 111 (.bN 2 (kT 7)),
 ⟨none,.store 1 (kT 111) (kT 110),none⟩])))))))
 (.ops [kO 43 (.mov (kT 8)),
 kO 44 (kA .add (kT 43) (kC 1)),
 kO 8 (.mov (kT 44))]))))))
 (.seq (.ops [kO 112 (.bK 3 (kT 7)),
 ⟨none,.store 3 (kT 2) (kT 112),none⟩])
 .ret))))))))
theorem enter40 (hl : xs.length ≤ 113)(w : wq E 113 none c40 (bM xs) h [] (bU E [.cell 2 26] Q)) : aJ E 40 xs h Q :=
  aJ.bV (fn := Try.f40) (bY Try.func40) (code := Try.f40.body.get rfl) rfl rfl rfl (by kernel_rfl) rfl (fun _ => rfl) hl w
theorem can40 : callable E 40 = true := aV Try.func40 rfl rfl
def c41 : C := (.seq (.ops [kO 2 (.box 26 (kT 0)),
 kO 3 (.box 26 (kT 1)),
 kO 4 (.mov (.const (.bool kF)))])
 (.seq (.seq (.ops [kO 7 (.bN 0 (kT 2)),
 kO 8 (.aQ (kT 7)),
 kO 9 (.bN 0 (kT 3)),
 kO 10 (.aQ (kT 9)),
 kO 11 (kA .neq (kT 8) (kT 10)),
 kO 12 (.mov (kT 11)),
 ⟨some 13,.bN 1 (kT 2),(some (12,kF))⟩,
 ⟨some 14,.aQ (kT 13),(some (12,kF))⟩,
 ⟨some 15,.dX (kT 14),(some (12,kF))⟩,
 ⟨some 16,.bN 1 (kT 3),(some (12,kF))⟩,
 ⟨some 17,.aQ (kT 16),(some (12,kF))⟩,
 ⟨some 18,.dX (kT 17),(some (12,kF))⟩,
 ⟨some 19,kA .neq (kT 15) (kT 18),(some (12,kF))⟩,
 kO 20 (.pick (kT 12) (.const (.bool kE)) (kT 19)),
 kO 21 (.mov (kT 20)),
 ⟨some 22,.bN 2 (kT 2),(some (21,kF))⟩,
 ⟨some 23,.aQ (kT 22),(some (21,kF))⟩,
 ⟨some 24,.dX (kT 23),(some (21,kF))⟩,
 ⟨some 25,.bN 2 (kT 3),(some (21,kF))⟩,
 ⟨some 26,.aQ (kT 25),(some (21,kF))⟩,
 ⟨some 27,.dX (kT 26),(some (21,kF))⟩,
 ⟨some 28,kA .neq (kT 24) (kT 27),(some (21,kF))⟩,
 kO 29 (.pick (kT 21) (.const (.bool kE)) (kT 28))])
 (.cond (kT 29) (.seq (.ops [kO 4 (.mov (.const (.bool kF)))])
 .ret)
 .skip))
 (.seq (.seq (.ops [kO 5 (.mov (kC 0))])
 (.block 0 (.loop (.seq (.seq (.ops [kO 30 (.mov (kT 5)),
 kO 31 (.bN 1 (kT 2)),
 kO 32 (.aQ (kT 31)),
 kO 33 (.dX (kT 32)),
 kO 34 (kA .lss (kT 30) (kT 33))])
 (.cond (kT 34) .skip
 (.exit 0)))
 (.seq (.block 1 (.seq (.seq (.ops [kO 37 (.bN 1 (kT 2)),
 kO 38 (.aQ (kT 37)),
 kO 39 (.mov (kT 5)),
 kO 40 (.cZ 1 (kT 38) (kT 39)),
 kO 41 (.aQ (kT 40)),
 kO 42 (.bN 1 (kT 3)),
 kO 43 (.aQ (kT 42)),
 kO 44 (.mov (kT 5)),
 kO 45 (.cZ 1 (kT 43) (kT 44)),
 kO 46 (.aQ (kT 45)),
 kO 47 (kA .neq (kT 41) (kT 46)),
 kO 48 (.mov (kT 47)),
 ⟨some 49,.bN 2 (kT 2),(some (48,kF))⟩,
 ⟨some 50,.aQ (kT 49),(some (48,kF))⟩,
 ⟨some 51,.mov (kT 5),(some (48,kF))⟩,
 ⟨some 52,.cZ 1 (kT 50) (kT 51),(some (48,kF))⟩,
 ⟨some 53,.aQ (kT 52),(some (48,kF))⟩,
 ⟨some 54,.dX (kT 53),(some (48,kF))⟩,
 ⟨some 55,.bN 2 (kT 3),(some (48,kF))⟩,
 ⟨some 56,.aQ (kT 55),(some (48,kF))⟩,
 ⟨some 57,.mov (kT 5),(some (48,kF))⟩,
 ⟨some 58,.cZ 1 (kT 56) (kT 57),(some (48,kF))⟩,
 ⟨some 59,.aQ (kT 58),(some (48,kF))⟩,
 ⟨some 60,.dX (kT 59),(some (48,kF))⟩,
 ⟨some 61,kA .neq (kT 54) (kT 60),(some (48,kF))⟩,
 kO 62 (.pick (kT 48) (.const (.bool kE)) (kT 61))])
 (.cond (kT 62) (.seq (.ops [kO 4 (.mov (.const (.bool kF)))])
 .ret)
 .skip))
 (.seq (.ops [kO 6 (.mov (kC 0))])
 (.block 2 (.loop (.seq (.seq (.ops [kO 63 (.mov (kT 6)),
 kO 64 (.bN 2 (kT 2)),
 kO 65 (.aQ (kT 64)),
 kO 66 (.mov (kT 5)),
 kO 67 (.cZ 1 (kT 65) (kT 66)),
 kO 68 (.aQ (kT 67)),
 kO 69 (.dX (kT 68)),
 kO 70 (kA .lss (kT 63) (kT 69))])
 (.cond (kT 70) .skip
 (.exit 2)))
 (.seq (.block 3 (.seq (.ops [kO 73 (.bN 2 (kT 2)),
 kO 74 (.aQ (kT 73)),
 kO 75 (.mov (kT 5)),
 kO 76 (.cZ 1 (kT 74) (kT 75)),
 kO 77 (.aQ (kT 76)),
 kO 78 (.mov (kT 6)),
 kO 79 (.cZ 1 (kT 77) (kT 78)),
 kO 80 (.aQ (kT 79)),
 kO 81 (.bN 2 (kT 3)),
 kO 82 (.aQ (kT 81)),
 kO 83 (.mov (kT 5)),
 kO 84 (.cZ 1 (kT 82) (kT 83)),
 kO 85 (.aQ (kT 84)),
 kO 86 (.mov (kT 6)),
 kO 87 (.cZ 1 (kT 85) (kT 86)),
 kO 88 (.aQ (kT 87)),
 kO 89 (kA .neq (kT 80) (kT 88))])
 (.cond (kT 89) (.seq (.ops [kO 4 (.mov (.const (.bool kF)))])
 .ret)
 .skip)))
 (.ops [kO 71 (.mov (kT 6)),
 kO 72 (kA .add (kT 71) (kC 1)),
 kO 6 (.mov (kT 72))]))))))))
 (.ops [kO 35 (.mov (kT 5)),
 kO 36 (kA .add (kT 35) (kC 1)),
 kO 5 (.mov (kT 36))]))))))
 (.seq (.ops [kO 4 (.mov (.const (.bool kE)))])
 .ret))))
theorem enter41 (hl : xs.length ≤ 90)(w : wq E 90 none c41 (bM xs) h [] (bU E [.tmp 4] Q)) : aJ E 41 xs h Q :=
  aJ.bV (fn := Try.f41) (bY Try.func41) (code := Try.f41.body.get rfl) rfl rfl rfl (by kernel_rfl) rfl (fun _ => rfl) hl w
theorem can41 : callable E 41 = true := aV Try.func41 rfl rfl
def c43 : C := (.seq (.ops [kO 3 (.box 25 (kT 0)),
 kO 5 (.box 26 (kT 2)),
 kO 6 (.mov (.const (.bool kF)))])
 (.seq (.ops [kO 8 (.bK 3 (kT 5)),
 kO 9 (.call 40 [.tmp 8]),
 kO 7 (.alloc 26 [kZ,kN,kN]),
 ⟨none,.store 3 (kT 7) (kT 9),none⟩])
 (.seq (.seq (.ops [kO 10 (.bN 1 (kT 7)),
 kO 11 (.aQ (kT 10)),
 kO 12 (.dX (kT 11)),
 kO 13 (kA .gtr (kT 12) (kC 12))])
 (.cond (kT 13) (.seq (.ops [kO 14 (.mov (kT 1)),
 kO 15 (kA .eql (kT 14) (kC 8)),
 kO 16 (.mov (kT 15)),
 ⟨some 17,.bK 3 (kT 3),(some (16,kE))⟩,
 ⟨some 18,.call 36 [.tmp 17],(some (16,kE))⟩,
 kO 19 (.pick (kT 16) (kT 18) (.const (.bool kF))),
 kO 6 (.mov (kT 19))])
 .ret)
 .skip))
 (.seq (.draw [kO 20 (.mov (kT 1)),
 kO 21 (kA .eql (kT 20) (kC 0)),
 kO 22 (.mov (kT 21)),
 ⟨some 23,.bK 3 (kT 3),(some (22,kE))⟩,
 ⟨some 24,.call 17 [.tmp 23],(some (22,kE))⟩,
 ⟨some 25,.bK 3 (kT 7),(some (22,kE))⟩,
 ⟨some 26,.call 41 [.tmp 24,.tmp 25],(some (22,kE))⟩,
 kO 27 (.pick (kT 22) (kT 26) (.const (.bool kF))),
 kO 28 (.mov (kT 27)),
 ⟨some 29,.bN 1 (kT 3),(some (28,kE))⟩,
 ⟨some 30,.aQ (kT 29),(some (28,kE))⟩,
 ⟨some 31,.dX (kT 30),(some (28,kE))⟩,
 ⟨some 32,.bN 1 (kT 7),(some (28,kE))⟩,
 ⟨some 33,.aQ (kT 32),(some (28,kE))⟩,
 ⟨some 34,.dX (kT 33),(some (28,kE))⟩,
 ⟨some 35,kA .eql (kT 31) (kT 34),(some (28,kE))⟩,
 kO 36 (.pick (kT 28) (kT 35) (.const (.bool kF))),
 kO 37 (.mov (kT 36)),
 ⟨some 38,.bN 2 (kT 3),(some (37,kE))⟩,
 ⟨some 39,.aQ (kT 38),(some (37,kE))⟩,
 ⟨some 40,.dX (kT 39),(some (37,kE))⟩,
 ⟨some 41,.bN 2 (kT 7),(some (37,kE))⟩,
 ⟨some 42,.aQ (kT 41),(some (37,kE))⟩,
 ⟨some 43,.dX (kT 42),(some (37,kE))⟩,
 ⟨some 44,kA .eql (kT 40) (kT 43),(some (37,kE))⟩,
 kO 45 (.pick (kT 37) (kT 44) (.const (.bool kF))),
 kO 6 (.mov (kT 45))]
 [⟨kF,kF,fL22,fL22⟩,
 ⟨kF,kF,fL22,fL22⟩,
 ⟨kF,kF,fL22,fL22⟩,
 ⟨kF,kF,fL22,fL22⟩,
 ⟨kE,kF,fL22,fL52⟩,
 ⟨kF,kE,fL22,fL52⟩,
 ⟨kE,kF,fL52,fL1⟩,
 ⟨kF,kF,fL1,fL1⟩,
 ⟨kF,kF,fL1,fL1⟩,
 ⟨kF,kF,fL1,fL1⟩,
 ⟨kF,kF,fL1,fL1⟩,
 ⟨kF,kF,fL1,fL1⟩,
 ⟨kF,kF,fL1,fL1⟩,
 ⟨kF,kF,fL1,fL1⟩,
 ⟨kF,kF,fL1,fL1⟩,
 ⟨kF,kF,fL1,fL1⟩,
 ⟨kF,kF,fL1,fL1⟩,
 ⟨kF,kF,fL1,fL1⟩,
 ⟨kF,kF,fL1,fL1⟩,
 ⟨kF,kF,fL1,fL1⟩,
 ⟨kF,kF,fL1,fL1⟩,
 ⟨kF,kF,fL1,fL1⟩,
 ⟨kF,kF,fL1,fL1⟩,
 ⟨kF,kF,fL1,fL1⟩,
 ⟨kF,kF,fL1,fL1⟩,
 ⟨kF,kF,fL1,fL1⟩,
 ⟨kF,kF,fL1,fL1⟩])
 .ret))))
theorem enter43 (hl : xs.length ≤ 46)(w : wq E 46 none c43 (bM xs) h [] (bU E [.tmp 6] Q)) : aJ E 43 xs h Q :=
  aJ.bV (fn := Try.f43) (bY Try.func43) (code := Try.f43.body.get rfl) rfl rfl rfl (by kernel_rfl) rfl (fun _ => rfl) hl w
theorem can43 : callable E 43 = true := aV Try.func43 rfl rfl
def c45 : C := (.seq (.ops [kO 2 (.mov (.const kN))])
 (.seq (.ops [kO 3 (.mov (.const kN))])
 (.seq (.seq (.ops [kO 4 (.mov (kC 0))])
 (.block 0 (.loop (.seq (.seq (.ops [kO 8 (.mov (kT 4)),
 kO 9 (kA .lss (kT 8) (kC 10))])
 (.cond (kT 9) .skip
 (.exit 0)))
 (.seq (.block 1 (.seq (.ops [kO 5 (.mov (.const kN))])
 (.seq (.seq (.ops [kO 6 (.mov (kC 0))])
 (.block 2 (.loop (.seq (.seq (.ops [kO 12 (.mov (kT 6)),
 kO 13 (kA .lss (kT 12) (kC 10))])
 (.cond (kT 13) .skip
 (.exit 2)))
 (.seq (.block 3 (.seq (.ops [kO 16 (.mov (kT 4)),
 kO 7 (.mov (kT 16))])
 (.seq (.seq (.ops [kO 17 (.mov (kT 0)),
 kO 18 (.dX (kT 17)),
 kO 19 (kA .gtr (kT 18) (kC 0))])
 (.cond (kT 19) (.ops [kO 20 (.mov (kT 0)),
 kO 21 (.mov (kT 4)),
 kO 22 (kA .mul (kC 3) (kT 21)),
 kO 23 (.mov (kT 6)),
 kO 24 (kA .add (kT 22) (kT 23)),
 kO 25 (.mov (kT 0)),
 kO 26 (.dX (kT 25)),
 kO 27 (kA .rem (kT 24) (kT 26)),
 kO 28 (.cZ 1 (kT 20) (kT 27)),
 kO 29 (.aQ (kT 28)),
 kO 30 (.Cn .u64 (kT 29)),
 kO 31 (.ar .u64 .rem (kT 30) (.const (.int .u64 10))),
 kO 32 (.Cn .i64 (kT 31)),
 kO 7 (.mov (kT 32))])
 .skip))
 (.ops [kO 33 (.mov (kT 5)),
 kO 34 (.mov (kT 7)),
 kO 35 (.fP 3 1 [kZ] [(0,1,(kT 34))]),
 kO 36 (.append 3 1 8 (kT 33) (kT 35)),
 kO 5 (.mov (kT 36))]))))
 (.ops [kO 14 (.mov (kT 6)),
 kO 15 (kA .add (kT 14) (kC 1)),
 kO 6 (.mov (kT 15))]))))))
 (.ops [kO 37 (.mov (kT 3)),
 kO 38 (.mov (kT 5)),
 kO 39 (.fP 22 1 [kN] [(0,1,(kT 38))]),
 kO 40 (.append 22 1 24 (kT 37) (kT 39)),
 kO 3 (.mov (kT 40))]))))
 (.ops [kO 10 (.mov (kT 4)),
 kO 11 (kA .add (kT 10) (kC 1)),
 kO 4 (.mov (kT 11))]))))))
 (.seq (.ops [kO 41 (.mov (kT 3)),
 kO 2 (.mov (kT 41))])
 .ret))))
theorem enter45 (hl : xs.length ≤ 42)(w : wq E 42 none c45 (bM xs) h [] (bU E [.tmp 2] Q)) : aJ E 45 xs h Q :=
  aJ.bV (fn := Try.f45) (bY Try.func45) (code := Try.f45.body.get rfl) rfl rfl rfl (by kernel_rfl) rfl (fun _ => rfl) hl w
theorem can45 : callable E 45 = true := aV Try.func45 rfl rfl
def c46 : C := (.seq (.ops [kO 2 (.box 26 (kT 0)),
 kO 4 (.alloc 26 [kZ,kN,kN])])
 (.seq (.ops [kO 8 (.bN 0 (kT 2)),
 kO 9 (.aQ (kT 8)),
 kO 10 (.bN 2 (kT 2)),
 kO 11 (.aQ (kT 10)),
 kO 12 (.iX [kZ,kN,kN] [(0,1,(kT 9)),(2,1,(kT 11))]),
 kO 5 (.alloc 26 [kZ,kN,kN]),
 ⟨none,.store 3 (kT 5) (kT 12),none⟩])
 (.seq (.seq (.ops [kO 6 (.mov (kC 0))])
 (.block 0 (.loop (.seq (.seq (.ops [kO 13 (.mov (kT 6)),
 kO 14 (.bN 1 (kT 2)),
 kO 15 (.aQ (kT 14)),
 kO 16 (.dX (kT 15)),
 kO 17 (kA .lss (kT 13) (kT 16))])
 (.cond (kT 17) .skip
 (.exit 0)))
 (.seq (.block 1 (.seq (.ops [kO 20 (.bN 1 (kT 5)),
 kO 21 (.aQ (kT 20)),
 kO 7 (.mov (kT 21))])
 (.ops [kO 22 (.mov (kT 7)),
 kO 23 (.mov (kT 1)),
 kO 24 (.bN 1 (kT 2)),
 kO 25 (.aQ (kT 24)),
 kO 26 (.mov (kT 6)),
 kO 27 (.cZ 1 (kT 25) (kT 26)),
 kO 28 (.aQ (kT 27)),
 kO 29 (.cZ 1 (kT 23) (kT 28)),
 kO 30 (.aQ (kT 29)),
 kO 31 (.fP 3 1 [kZ] [(0,1,(kT 30))]),
 kO 32 (.append 3 1 8 (kT 22) (kT 31)),
 kO 33 (.bN 1 (kT 5)),
 ⟨none,.store 1 (kT 33) (kT 32),none⟩])))
 (.ops [kO 18 (.mov (kT 6)),
 kO 19 (kA .add (kT 18) (kC 1)),
 kO 6 (.mov (kT 19))]))))))
 (.seq (.ops [kO 34 (.bK 3 (kT 5)),
 ⟨none,.store 3 (kT 4) (kT 34),none⟩])
 .ret))))
theorem enter46 (hl : xs.length ≤ 35)(w : wq E 35 none c46 (bM xs) h [] (bU E [.cell 4 26] Q)) : aJ E 46 xs h Q :=
  aJ.bV (fn := Try.f46) (bY Try.func46) (code := Try.f46.body.get rfl) rfl rfl rfl (by kernel_rfl) rfl (fun _ => rfl) hl w
theorem can46 : callable E 46 = true := aV Try.func46 rfl rfl
def c47 : C := (.seq (.ops [kO 3 (.box 26 (kT 0)),
 kO 4 (.box 26 (kT 1)),
 kO 6 (.alloc 26 [kZ,kN,kN])])
 (.seq (.ops [kO 20 (.iX [kZ,kZ] [(0,1,(kC 0)),(1,1,(kC 0))]),
 kO 21 (.fP 64 1 [kZ,kZ] [(0,2,(kT 20))]),
 kO 7 (.mov (kT 21))])
 (.seq (.ops [kO 22 (.iC),
 kO 23 (.iX [kZ,kZ] [(0,1,(kC 0)),(1,1,(kC 0))]),
 ⟨none,.raw (.insert 117 (kT 22) (kT 23) (kC 0)) 0,none⟩,
 kO 24 (.mov (kT 22)),
 kO 8 (.mov (kT 24))])
 (.seq (.ops [kO 25 (.bN 0 (kT 3)),
 kO 26 (.aQ (kT 25)),
 kO 27 (.iX [kZ,kN,kN] [(0,1,(kT 26))]),
 kO 9 (.alloc 26 [kZ,kN,kN]),
 ⟨none,.store 3 (kT 9) (kT 27),none⟩])
 (.seq (.seq (.ops [kO 10 (.mov (kC 0))])
 (.block 0 (.loop (.seq (.seq (.ops [kO 28 (.mov (kT 10)),
 kO 29 (.mov (kT 7)),
 kO 30 (.dX (kT 29)),
 kO 31 (kA .lss (kT 28) (kT 30))])
 (.cond (kT 31) .skip
 (.exit 0)))
 (.seq (.block 1 (.seq (.ops [kO 34 (.mov (kT 7)),
 kO 35 (.mov (kT 10)),
 kO 36 (.cZ 2 (kT 34) (kT 35)),
 kO 37 (.GV 2 1 (kT 36) (kC 0)),
 kO 38 (.aQ (kT 37)),
 kO 39 (.mov (kT 7)),
 kO 40 (.mov (kT 10)),
 kO 41 (.cZ 2 (kT 39) (kT 40)),
 kO 42 (.GV 2 1 (kT 41) (kC 1)),
 kO 43 (.aQ (kT 42)),
 kO 11 (.mov (kT 38)),
 kO 12 (.mov (kT 43))])
 (.seq (.ops [kO 13 (.mov (.const kN))])
 (.seq (.seq (.ops [kO 14 (.mov (kC 0))])
 (.block 2 (.loop (.seq (.seq (.ops [kO 44 (.mov (kT 14)),
 kO 45 (.bN 0 (kT 3)),
 kO 46 (.aQ (kT 45)),
 kO 47 (kA .lss (kT 44) (kT 46))])
 (.cond (kT 47) .skip
 (.exit 2)))
 (.seq (.block 3 (.seq (.draw [kO 50 (.bN 2 (kT 3)),
 kO 51 (.aQ (kT 50)),
 kO 52 (.mov (kT 11)),
 kO 53 (.cZ 1 (kT 51) (kT 52)),
 kO 54 (.aQ (kT 53)),
 kO 55 (.mov (kT 14)),
 kO 56 (.cZ 1 (kT 54) (kT 55)),
 kO 57 (.aQ (kT 56)),
 kO 58 (.bN 2 (kT 4)),
 kO 59 (.aQ (kT 58)),
 kO 60 (.mov (kT 12)),
 kO 61 (.cZ 1 (kT 59) (kT 60)),
 kO 62 (.aQ (kT 61)),
 kO 63 (.mov (kT 14)),
 kO 64 (.cZ 1 (kT 62) (kT 63)),
 kO 65 (.aQ (kT 64)),
 kO 66 (.iX [kZ,kZ] [(0,1,(kT 57)),(1,1,(kT 65))]),
 kO 15 (.alloc 64 [kZ,kZ]),
 ⟨none,.store 2 (kT 15) (kT 66),none⟩]
 [⟨kF,kE,fL3,fL10⟩,
 ⟨kF,kE,fL3,fL10⟩,
 ⟨kF,kE,fL3,fL10⟩,
 ⟨kF,kE,fL3,fL10⟩,
 ⟨kF,kE,fL3,fL10⟩,
 ⟨kF,kE,fL3,fL10⟩,
 ⟨kF,kE,fL3,fL10⟩,
 ⟨kF,kE,fL3,fL10⟩,
 ⟨kF,kE,fL3,fL10⟩,
 ⟨kF,kE,fL3,fL10⟩,
 ⟨kF,kE,fL3,fL10⟩,
 ⟨kF,kE,fL3,fL10⟩,
 ⟨kF,kE,fL3,fL10⟩,
 ⟨kF,kE,fL3,fL10⟩,
 ⟨kF,kE,fL3,fL10⟩,
 ⟨kF,kE,fL3,fL10⟩,
 ⟨kF,kE,fL3,fL10⟩,
 ⟨kE,kF,fL3,fL10⟩,
 ⟨kE,kF,fL10,[kF,kF,kF,kF,kF,kF,kF,kF,kF,kF,kF,kF,kF,kF,kF,kF,kF,kE,kE]⟩])
 (.seq (.ops [kO 68 (.mov (kT 7)),
 kO 69 (.mov (kT 8)),
 kO 70 (.bK 2 (kT 15)),
 kO 71 (.call 83 [.tmp 68,.tmp 69,.tmp 70]),
 kO 67 (.mov (kT 71)),
 kO 72 (.ext (kT 67) 0),
 kO 73 (.ext (kT 67) 1),
 kO 16 (.mov (kT 72)),
 kO 17 (.mov (kT 73))])
 (.seq (.seq (.ops [kO 74 (.mov (kT 17)),
 kO 75 (.not (kT 74))])
 (.cond (kT 75) (.seq (.ops [kO 76 (.mov (kT 8)),
 kO 77 (.bK 2 (kT 15)),
 kO 78 (.mov (kT 16)),
 ⟨none,.raw (.mapUpdate 117 (kT 76) (kT 77) (kT 78)) 0,none⟩])
 (.ops [kO 79 (.mov (kT 7)),
 kO 80 (.bK 2 (kT 15)),
 kO 81 (.fP 64 1 [kZ,kZ] [(0,2,(kT 80))]),
 kO 82 (.append 64 2 16 (kT 79) (kT 81)),
 kO 7 (.mov (kT 82))]))
 .skip))
 (.ops [kO 83 (.mov (kT 13)),
 kO 84 (.mov (kT 16)),
 kO 85 (.fP 3 1 [kZ] [(0,1,(kT 84))]),
 kO 86 (.append 3 1 8 (kT 83) (kT 85)),
 kO 13 (.mov (kT 86))])))))
 (.ops [kO 48 (.mov (kT 14)),
 kO 49 (kA .add (kT 48) (kC 1)),
 kO 14 (.mov (kT 49))]))))))
 (.seq (.ops [kO 87 (.bN 1 (kT 9)),
 kO 88 (.aQ (kT 87)),
 kO 89 (.bN 2 (kT 9)),
 kO 90 (.aQ (kT 89)),
 kO 18 (.mov (kT 88)),
 kO 19 (.mov (kT 90))])
 (.seq (.draw [kO 91 (.mov (kT 18)),
 kO 92 (.mov (kT 2)),
 kO 93 (.bN 1 (kT 3)),
 kO 94 (.aQ (kT 93)),
 kO 95 (.mov (kT 11)),
 kO 96 (.cZ 1 (kT 94) (kT 95)),
 kO 97 (.aQ (kT 96)),
 kO 98 (.cZ 1 (kT 92) (kT 97)),
 kO 99 (.aQ (kT 98)),
 kO 100 (.bN 1 (kT 4)),
 kO 101 (.aQ (kT 100)),
 kO 102 (.mov (kT 12)),
 kO 103 (.cZ 1 (kT 101) (kT 102)),
 kO 104 (.aQ (kT 103)),
 kO 105 (.cZ 1 (kT 99) (kT 104)),
 kO 106 (.aQ (kT 105)),
 kO 107 (.fP 3 1 [kZ] [(0,1,(kT 106))]),
 kO 108 (.append 3 1 8 (kT 91) (kT 107)),
 kO 109 (.bN 1 (kT 9)),
 ⟨none,.store 1 (kT 109) (kT 108),none⟩]
 [⟨kF,kE,fL2,fL53⟩,
 ⟨kF,kF,fL2,fL2⟩,
 ⟨kF,kF,fL2,fL2⟩,
 ⟨kF,kF,fL2,fL2⟩,
 ⟨kF,kF,fL2,fL2⟩,
 ⟨kF,kF,fL2,fL2⟩,
 ⟨kF,kF,fL2,fL2⟩,
 ⟨kF,kF,fL2,fL2⟩,
 ⟨kF,kF,fL2,fL2⟩,
 ⟨kF,kF,fL2,fL2⟩,
 ⟨kF,kF,fL2,fL2⟩,
 ⟨kF,kF,fL2,fL2⟩,
 ⟨kF,kF,fL2,fL2⟩,
 ⟨kF,kF,fL2,fL2⟩,
 ⟨kF,kF,fL2,fL2⟩,
 ⟨kF,kF,fL2,fL2⟩,
 ⟨kE,kF,fL2,fL53⟩,
 ⟨kE,kF,fL53,fL47⟩,
 ⟨kF,kF,fL47,fL47⟩,
 ⟨kE,kF,fL47,[kF,kF,kF,kF,kF,kF,kF,kF,kF,kF,kF,kF,kF,kF,kF,kF,kE,kE,kF,kE]⟩])
 (.ops [kO 110 (.mov (kT 19)),
 kO 111 (.mov (kT 13)),
 kO 112 (.fP 22 1 [kN] [(0,1,(kT 111))]),
 kO 113 (.append 22 1 24 (kT 110) (kT 112)),
 kO 114 (.bN 2 (kT 9)),
 ⟨none,.store 1 (kT 114) (kT 113),none⟩])))))))
 (.ops [kO 32 (.mov (kT 10)),
 kO 33 (kA .add (kT 32) (kC 1)),
 kO 10 (.mov (kT 33))]))))))
 (.seq (.ops [kO 115 (.bK 3 (kT 9)),
 ⟨none,.store 3 (kT 6) (kT 115),none⟩])
 .ret))))))
theorem enter47 (hl : xs.length ≤ 116)(w : wq E 116 none c47 (bM xs) h [] (bU E [.cell 6 26] Q)) : aJ E 47 xs h Q :=
  aJ.bV (fn := Try.f47) (bY Try.func47) (code := Try.f47.body.get rfl) rfl rfl rfl (by kernel_rfl) rfl (fun _ => rfl) hl w
theorem can47 : callable E 47 = true := aV Try.func47 rfl rfl
def c49 : C := (.seq (.ops [kO 4 (.mov (.const kN))])
 (.seq (.ops [kO 5 (.mov (.const kN))])
 (.seq (.ops [kO 6 (.mov (kT 5)),
 kO 7 (.mov (kT 0)),
 kO 8 (.mov (kT 0)),
 kO 9 (.dX (kT 8)),
 kO 10 (.mov (kT 1)),
 kO 11 (.raw (.call ⟨.builtin .min,⟨[.tmp 9,.tmp 10]⟩,⟨[3,3]⟩⟩) 3),
 kO 12 (.Jq 1 (kT 7) none (some (kT 11)) none),
 kO 13 (.append 3 1 8 (kT 6) (kT 12)),
 kO 4 (.mov (kT 13))])
 .ret)))
theorem enter49 (hl : xs.length ≤ 14)(w : wq E 14 none c49 (bM xs) h [] (bU E [.tmp 4] Q)) : aJ E 49 xs h Q :=
  aJ.bV (fn := Try.f49) (bY Try.func49) (code := Try.f49.body.get rfl) rfl rfl rfl (by kernel_rfl) rfl (fun _ => rfl) hl w
theorem can49 : callable E 49 = true := aV Try.func49 rfl rfl
def c50 : C := (.seq (.ops [kO 6 (.alloc 25 [kZ,kN,kN]),
 kO 7 (.mov (kC 0))])
 (.seq (.seq (.ops [kO 9 (.mov (kT 0)),
 kO 10 (kA .lss (kT 9) (kC 2)),
 kO 11 (.mov (kT 10)),
 ⟨some 12,.mov (kT 0),(some (11,kF))⟩,
 ⟨some 13,kA .gtr (kT 12) (kC 5),(some (11,kF))⟩,
 kO 14 (.pick (kT 11) (.const (.bool kE)) (kT 13)),
 kO 15 (.mov (kT 14)),
 ⟨some 16,.mov (kT 1),(some (15,kF))⟩,
 ⟨some 17,.dX (kT 16),(some (15,kF))⟩,
 ⟨some 18,kA .gtr (kT 17) (kC 20),(some (15,kF))⟩,
 kO 19 (.pick (kT 15) (.const (.bool kE)) (kT 18)),
 kO 20 (.mov (kT 19)),
 ⟨some 21,.mov (kT 2),(some (20,kF))⟩,
 ⟨some 22,.dX (kT 21),(some (20,kF))⟩,
 ⟨some 23,kA .lss (kT 22) (kC 1),(some (20,kF))⟩,
 kO 24 (.pick (kT 20) (.const (.bool kE)) (kT 23)),
 kO 25 (.mov (kT 24)),
 ⟨some 26,.mov (kT 2),(some (25,kF))⟩,
 ⟨some 27,.dX (kT 26),(some (25,kF))⟩,
 ⟨some 28,kA .gtr (kT 27) (kC 20),(some (25,kF))⟩,
 kO 29 (.pick (kT 25) (.const (.bool kE)) (kT 28))])
 (.cond (kT 29) (.seq (.ops [kO 30 (.iX [kZ,kN,kN] []),
 ⟨none,.store 3 (kT 6) (kT 30),none⟩,
 kO 7 (.mov (kC 1))])
 .ret)
 .skip))
 (.seq (.seq (.ops [kO 31 (.mov (kT 1)),
 kO 32 (.call 57 [.tmp 31]),
 kO 33 (.not (kT 32)),
 kO 34 (.mov (kT 33)),
 ⟨some 35,.mov (kT 2),(some (34,kF))⟩,
 ⟨some 36,.call 57 [.tmp 35],(some (34,kF))⟩,
 ⟨some 37,.not (kT 36),(some (34,kF))⟩,
 kO 38 (.pick (kT 34) (.const (.bool kE)) (kT 37))])
 (.cond (kT 38) (.seq (.ops [kO 39 (.iX [kZ,kN,kN] []),
 ⟨none,.store 3 (kT 6) (kT 39),none⟩,
 kO 7 (.mov (kC 1))])
 .ret)
 .skip))
 (.seq (.ops [kO 40 (.mov (kT 1)),
 kO 41 (.mov (kT 2)),
 kO 42 (.fP 22 2 [kN,kN] [(0,1,(kT 40)),(1,1,(kT 41))]),
 kO 43 (.call 84 [.tmp 42]),
 kO 44 (.mov (kT 1)),
 kO 45 (.dX (kT 44)),
 kO 46 (.iX [kN,kZ] [(0,1,(kT 43)),(1,1,(kT 45))]),
 kO 8 (.alloc 121 [kN,kZ]),
 ⟨none,.store 2 (kT 8) (kT 46),none⟩])
 (.seq (.ops [kO 47 (.bK 2 (kT 8)),
 kO 48 (.mov (kT 0)),
 kO 49 (.call 85 [.tmp 47,.tmp 48]),
 kO 50 (.call 66 [.tmp 49]),
 kO 51 (.ext (kT 50) 0),
 kO 52 (.ext (kT 50) 1),
 ⟨none,.store 3 (kT 6) (kT 51),none⟩,
 kO 7 (.mov (kT 52))])
 .ret)))))
theorem enter50 (hl : xs.length ≤ 53)(w : wq E 53 none c50 (bM xs) h [] (bU E [.cell 6 25,.tmp 7] Q)) : aJ E 50 xs h Q :=
  aJ.bV (fn := Try.f50) (bY Try.func50) (code := Try.f50.body.get rfl) rfl rfl rfl (by kernel_rfl) rfl (fun _ => rfl) hl w
theorem can50 : callable E 50 = true := aV Try.func50 rfl rfl
def c57 : C := (.seq (.ops [kO 2 (.mov (.const (.bool kF)))])
 (.seq (.ops [kO 3 (.mov (kT 0)),
 kO 4 (.call 59 [.tmp 3,.func 89]),
 kO 5 (.not (kT 4)),
 kO 2 (.mov (kT 5))])
 .ret))
theorem enter57 (hl : xs.length ≤ 6)(w : wq E 6 none c57 (bM xs) h [] (bU E [.tmp 2] Q)) : aJ E 57 xs h Q :=
  aJ.bV (fn := Try.f57) (bY Try.func57) (code := Try.f57.body.get rfl) rfl rfl rfl (by kernel_rfl) rfl (fun _ => rfl) hl w
theorem can57 : callable E 57 = true := aV Try.func57 rfl rfl
def c58 : C := (.seq (.ops [kO 3 (.mov (.const (.bool kF)))])
 (.seq (.ops [kO 4 (.mov (kT 0)),
 kO 5 (kA .lss (kT 4) (kC 0)),
 kO 6 (.mov (kT 5)),
 ⟨some 7,.mov (kT 0),(some (6,kF))⟩,
 ⟨some 8,.aQ (kT 1),(some (6,kF))⟩,
 ⟨some 9,kA .geq (kT 7) (kT 8),(some (6,kF))⟩,
 kO 10 (.pick (kT 6) (.const (.bool kE)) (kT 9)),
 kO 3 (.mov (kT 10))])
 .ret))
theorem enter58 (hl : xs.length ≤ 11)(w : wq E 11 none c58 (bM xs) h [] (bU E [.tmp 3] Q)) : aJ E 58 xs h Q :=
  aJ.bV (fn := Try.f58) (bY Try.func58) (code := Try.f58.body.get rfl) rfl rfl rfl (by kernel_rfl) rfl (fun _ => rfl) hl w
theorem can58 : callable E 58 = true := aV Try.func58 rfl rfl
def c59 : C := (.seq (.ops [kO 4 (.mov (.const (.bool kF)))])
 (.seq (.ops [kO 5 (.mov (kT 0)),
 kO 6 (.mov (kT 1)),
 kO 7 (.call 90 [.tmp 5,.tmp 6]),
 kO 8 (kA .geq (kT 7) (kC 0)),
 kO 4 (.mov (kT 8))])
 .ret))
theorem enter59 (hl : xs.length ≤ 9)(w : wq E 9 none c59 (bM xs) h [] (bU E [.tmp 4] Q)) : aJ E 59 xs h Q :=
  aJ.bV (fn := Try.f59) (bY Try.func59) (code := Try.f59.body.get rfl) rfl rfl rfl (by kernel_rfl) rfl (fun _ => rfl) hl w
theorem can59 : callable E 59 = true := aV Try.func59 rfl rfl
def c60 : C := (.seq (.ops [kO 0 (.alloc 26 [kZ,kN,kN])])
 (.seq (.ops [kO 1 (.fP 3 2 [kZ,kZ] [(0,1,(kC 0)),(1,1,(kC 1))]),
 kO 2 (.fP 3 2 [kZ,kZ] [(0,1,(kC 0)),(1,1,(kC 1))]),
 kO 3 (.fP 3 2 [kZ,kZ] [(0,1,(kC 1)),(1,1,(kC 0))]),
 kO 4 (.fP 22 2 [kN,kN] [(0,1,(kT 2)),(1,1,(kT 3))]),
 kO 5 (.iX [kZ,kN,kN] [(0,1,(kC 2)),(1,1,(kT 1)),(2,1,(kT 4))]),
 ⟨none,.store 3 (kT 0) (kT 5),none⟩])
 .ret))
theorem enter60 (hl : xs.length ≤ 6)(w : wq E 6 none c60 (bM xs) h [] (bU E [.cell 0 26] Q)) : aJ E 60 xs h Q :=
  aJ.bV (fn := Try.f60) (bY Try.func60) (code := Try.f60.body.get rfl) rfl rfl rfl (by kernel_rfl) rfl (fun _ => rfl) hl w
theorem can60 : callable E 60 = true := aV Try.func60 rfl rfl
def c61 : C := (.seq (.ops [kO 4 (.mov (.const (.bool kF)))])
 (.seq (.seq (.ops [kO 6 (.mov (kT 0)),
 kO 7 (.dX (kT 6)),
 kO 8 (.mov (kT 1)),
 kO 9 (.dX (kT 8)),
 kO 10 (kA .neq (kT 7) (kT 9))])
 (.cond (kT 10) (.seq (.ops [kO 4 (.mov (.const (.bool kF)))])
 .ret)
 .skip))
 (.seq (.seq (.ops [kO 5 (.mov (kC 0))])
 (.block 0 (.loop (.seq (.seq (.ops [kO 11 (.mov (kT 5)),
 kO 12 (.mov (kT 0)),
 kO 13 (.dX (kT 12)),
 kO 14 (kA .lss (kT 11) (kT 13))])
 (.cond (kT 14) .skip
 (.exit 0)))
 (.seq (.block 1 (.seq (.ops [kO 17 (.mov (kT 0)),
 kO 18 (.mov (kT 5)),
 kO 19 (.cZ 1 (kT 17) (kT 18)),
 kO 20 (.aQ (kT 19)),
 kO 21 (.mov (kT 1)),
 kO 22 (.mov (kT 5)),
 kO 23 (.cZ 1 (kT 21) (kT 22)),
 kO 24 (.aQ (kT 23)),
 kO 25 (kA .neq (kT 20) (kT 24))])
 (.cond (kT 25) (.seq (.ops [kO 4 (.mov (.const (.bool kF)))])
 .ret)
 .skip)))
 (.ops [kO 15 (.mov (kT 5)),
 kO 16 (kA .add (kT 15) (kC 1)),
 kO 5 (.mov (kT 16))]))))))
 (.seq (.ops [kO 4 (.mov (.const (.bool kE)))])
 .ret))))
theorem enter61 (hl : xs.length ≤ 26)(w : wq E 26 none c61 (bM xs) h [] (bU E [.tmp 4] Q)) : aJ E 61 xs h Q :=
  aJ.bV (fn := Try.f61) (bY Try.func61) (code := Try.f61.body.get rfl) rfl rfl rfl (by kernel_rfl) rfl (fun _ => rfl) hl w
theorem can61 : callable E 61 = true := aV Try.func61 rfl rfl
def c62 : C := (.seq (.ops [kO 3 (.box 25 (kT 0)),
 kO 4 (.box 3 (kT 1)),
 kO 6 (.mov (kC 0))])
 (.seq (.seq (.ops [kO 8 (.mov (kT 2)),
 kO 9 (.bN 0 (kT 3)),
 kO 10 (.aQ (kT 9)),
 kO 11 (.call 91 [.tmp 8,.tmp 10])])
 (.block 0 (.range (kT 11) ⟨[12]⟩ (.ops [kO 7 (.mov (kT 12))])
 (.block 1 (.ops [kO 13 (.bN 2 (kT 3)),
 kO 14 (.aQ (kT 13)),
 kO 15 (.aQ (kT 4)),
 kO 16 (.cZ 1 (kT 14) (kT 15)),
 kO 17 (.aQ (kT 16)),
 kO 18 (.mov (kT 7)),
 kO 19 (.cZ 1 (kT 17) (kT 18)),
 kO 20 (.aQ (kT 19)),
 ⟨none,.store 1 (kT 4) (kT 20),none⟩])))))
 (.seq (.ops [kO 21 (.bN 1 (kT 3)),
 kO 22 (.aQ (kT 21)),
 kO 23 (.aQ (kT 4)),
 kO 24 (.cZ 1 (kT 22) (kT 23)),
 kO 25 (.aQ (kT 24)),
 kO 6 (.mov (kT 25))])
 .ret)))
theorem enter62 (hl : xs.length ≤ 26)(w : wq E 26 none c62 (bM xs) h [] (bU E [.tmp 6] Q)) : aJ E 62 xs h Q :=
  aJ.bV (fn := Try.f62) (bY Try.func62) (code := Try.f62.body.get rfl) rfl rfl rfl (by kernel_rfl) rfl (fun _ => rfl) hl w
theorem can62 : callable E 62 = true := aV Try.func62 rfl rfl
def c63 : C := (.seq (.ops [kO 1 (.box 25 (kT 0)),
 kO 2 (.alloc 25 [kZ,kN,kN])])
 (.seq (.ops [kO 11 (.bK 3 (kT 1)),
 kO 12 (.call 92 [.tmp 11]),
 kO 3 (.alloc 22 [kN]),
 ⟨none,.store 1 (kT 3) (kT 12),none⟩])
 (.seq (.ops [kO 13 (.iC),
 kO 4 (.alloc 114 [.map none]),
 ⟨none,.store 1 (kT 4) (kT 13),none⟩])
 (.seq (.seq (.ops [kO 14 (.aQ (kT 3)),
 kO 15 (.dX (kT 14)),
 kO 16 (.mov (kC 0))])
 (.block 0 (.loop (.seq (.ops [kO 17 (kA .lss (kT 16) (kT 15))])
 (.seq (.cond (kT 17) .skip
 (.exit 0))
 (.seq (.block 1 (.seq (.ops [kO 18 (.mov (kT 16)),
 kO 19 (.cZ 1 (kT 14) (kT 16)),
 kO 20 (.aQ (kT 19)),
 kO 5 (.mov (kT 18)),
 kO 6 (.mov (kT 20))])
 (.seq (.ops [kO 22 (.aQ (kT 4)),
 kO 23 (.mov (kT 6)),
 kO 24 (.raw (.lookup 114 (kT 22) (kT 23) kE) 115),
 kO 21 (.mov (kT 24)),
 kO 25 (.ext (kT 21) 0),
 kO 26 (.ext (kT 21) 1),
 kO 7 (.mov (kT 25)),
 kO 8 (.mov (kT 26))])
 (.seq (.ops [kO 27 (.mov (kT 8)),
 kO 28 (.not (kT 27))])
 (.cond (kT 28) (.ops [kO 29 (.aQ (kT 4)),
 kO 30 (.mov (kT 6)),
 kO 31 (.mov (kT 5)),
 ⟨none,.raw (.mapUpdate 114 (kT 29) (kT 30) (kT 31)) 0,none⟩])
 .skip)))))
 (.ops [kO 32 (kA .add (kT 16) (kC 1)),
 kO 16 (.mov (kT 32))])))))))
 (.seq (.ops [kO 33 (.func (.func 93) [] [.tmp 1,.tmp 4]),
 kO 9 (.mov (kT 33))])
 (.seq (.ops [kO 34 (.func (.func 94) [] [.tmp 3,.tmp 1,.tmp 4]),
 kO 10 (.mov (kT 34))])
 (.seq (.ops [kO 35 (.bN 0 (kT 1)),
 kO 36 (.aQ (kT 35)),
 kO 37 (.aQ (kT 3)),
 kO 38 (.cZ 1 (kT 37) (kC 0)),
 kO 39 (.aQ (kT 38)),
 kO 40 (.mov (kT 9)),
 kO 41 (.mov (kT 10)),
 kO 42 (.call 70 [.tmp 36,.tmp 39,.tmp 40,.tmp 41]),
 ⟨none,.store 3 (kT 2) (kT 42),none⟩])
 .ret)))))))
theorem enter63 (hl : xs.length ≤ 43)(w : wq E 43 none c63 (bM xs) h [] (bU E [.cell 2 25] Q)) : aJ E 63 xs h Q :=
  aJ.bV (fn := Try.f63) (bY Try.func63) (code := Try.f63.body.get rfl) rfl rfl rfl (by kernel_rfl) rfl (fun _ => rfl) hl w
theorem can63 : callable E 63 = true := aV Try.func63 rfl rfl
def c64 : C := (.seq (.ops [kO 2 (.box 25 (kT 0)),
 kO 3 (.box 25 (kT 1)),
 kO 4 (.mov (kC 0))])
 (.seq (.seq (.ops [kO 7 (.bK 3 (kT 2)),
 kO 8 (.call 20 [.tmp 7]),
 kO 5 (.mov (kT 8))])
 (.seq (.ops [kO 9 (.mov (kT 5)),
 kO 10 (kA .neq (kT 9) (kC 0))])
 (.cond (kT 10) (.seq (.ops [kO 11 (.mov (kT 5)),
 kO 4 (.mov (kT 11))])
 .ret)
 .skip)))
 (.seq (.seq (.ops [kO 12 (.bK 3 (kT 3)),
 kO 13 (.call 20 [.tmp 12]),
 kO 6 (.mov (kT 13))])
 (.seq (.ops [kO 14 (.mov (kT 6)),
 kO 15 (kA .neq (kT 14) (kC 0))])
 (.cond (kT 15) (.seq (.ops [kO 16 (.mov (kT 6)),
 kO 4 (.mov (kT 16))])
 .ret)
 .skip)))
 (.seq (.seq (.ops [kO 17 (.bN 0 (kT 2)),
 kO 18 (.aQ (kT 17)),
 kO 19 (.bN 0 (kT 3)),
 kO 20 (.aQ (kT 19)),
 kO 21 (kA .neq (kT 18) (kT 20))])
 (.cond (kT 21) (.seq (.ops [kO 4 (.mov (kC 1))])
 .ret)
 .skip))
 (.seq (.ops [kO 4 (.mov (kC 0))])
 .ret)))))
theorem enter64 (hl : xs.length ≤ 22)(w : wq E 22 none c64 (bM xs) h [] (bU E [.tmp 4] Q)) : aJ E 64 xs h Q :=
  aJ.bV (fn := Try.f64) (bY Try.func64) (code := Try.f64.body.get rfl) rfl rfl rfl (by kernel_rfl) rfl (fun _ => rfl) hl w
theorem can64 : callable E 64 = true := aV Try.func64 rfl rfl
def c65 : C := (.seq (.ops [kO 2 (.box 25 (kT 0)),
 kO 3 (.box 25 (kT 1)),
 kO 4 (.mov (kC 0)),
 kO 5 (.mov (.const (.bool kF)))])
 (.scope (.seq (.ops [kO 16 (.iX [kZ,kZ] [(0,1,(kC 0)),(1,1,(kC 0))]),
 kO 6 (.alloc 106 [kZ,kZ]),
 ⟨none,.store 2 (kT 6) (kT 16),none⟩])
 (.seq (.ops [kO 17 (.iC),
 kO 18 (.bK 2 (kT 6)),
 ⟨none,.raw (.insert 131 (kT 17) (kT 18) (.const (.bool kE))) 0,none⟩,
 kO 19 (.mov (kT 17)),
 kO 7 (.mov (kT 19))])
 (.seq (.ops [kO 20 (.bK 2 (kT 6)),
 kO 21 (.iX [kZ,kZ,kZ,kZ] [(0,2,(kT 20)),(2,1,(.const (.int .i64 (-1))))]),
 kO 22 (.fP 133 1 [kZ,kZ,kZ,kZ] [(0,4,(kT 21))]),
 kO 8 (.mov (kT 22))])
 (.seq (.ops [kO 9 (.mov (.const (.int .i64 (-1))))])
 (.seq .skip
 (.seq (.seq (.ops [kO 10 (.mov (kC 0))])
 (.block 0 (.loop (.seq (.seq (.ops [kO 23 (.mov (kT 10)),
 kO 24 (.mov (kT 8)),
 kO 25 (.dX (kT 24)),
 kO 26 (kA .lss (kT 23) (kT 25))])
 (.cond (kT 26) .skip
 (.exit 0)))
 (.seq (.block 1 (.seq (.ops [kO 29 (.mov (kT 8)),
 kO 30 (.mov (kT 10)),
 kO 31 (.cZ 4 (kT 29) (kT 30)),
 kO 32 (.bN 0 (kT 31)),
 kO 33 (.bK 2 (kT 32)),
 kO 11 (.alloc 106 [kZ,kZ]),
 ⟨none,.store 2 (kT 11) (kT 33),none⟩])
 (.seq (.seq (.ops [kO 34 (.bN 1 (kT 2)),
 kO 35 (.aQ (kT 34)),
 kO 36 (.bN 0 (kT 11)),
 kO 37 (.aQ (kT 36)),
 kO 38 (.cZ 1 (kT 35) (kT 37)),
 kO 39 (.aQ (kT 38)),
 kO 40 (.bN 1 (kT 3)),
 kO 41 (.aQ (kT 40)),
 kO 42 (.bN 1 (kT 11)),
 kO 43 (.aQ (kT 42)),
 kO 44 (.cZ 1 (kT 41) (kT 43)),
 kO 45 (.aQ (kT 44)),
 kO 46 (kA .neq (kT 39) (kT 45))])
 (.cond (kT 46) (.seq (.ops [kO 47 (.mov (kT 10)),
 kO 9 (.mov (kT 47))])
 (.exit 0))
 .skip))
 (.seq (.ops [kO 48 (.bN 0 (kT 2)),
 kO 49 (.aQ (kT 48)),
 kO 50 (.mov (kC 0))])
 (.block 2 (.loop (.seq (.ops [kO 51 (kA .lss (kT 50) (kT 49))])
 (.seq (.cond (kT 51) .skip
 (.exit 2))
 (.seq (.block 3 (.seq (.ops [kO 52 (.mov (kT 50)),
 kO 12 (.mov (kT 52))])
 (.seq (.draw [kO 53 (.bN 2 (kT 2)),
 kO 54 (.aQ (kT 53)),
 kO 55 (.bN 0 (kT 11)),
 kO 56 (.aQ (kT 55)),
 kO 57 (.cZ 1 (kT 54) (kT 56)),
 kO 58 (.aQ (kT 57)),
 kO 59 (.mov (kT 12)),
 kO 60 (.cZ 1 (kT 58) (kT 59)),
 kO 61 (.aQ (kT 60)),
 kO 62 (.bN 2 (kT 3)),
 kO 63 (.aQ (kT 62)),
 kO 64 (.bN 1 (kT 11)),
 kO 65 (.aQ (kT 64)),
 kO 66 (.cZ 1 (kT 63) (kT 65)),
 kO 67 (.aQ (kT 66)),
 kO 68 (.mov (kT 12)),
 kO 69 (.cZ 1 (kT 67) (kT 68)),
 kO 70 (.aQ (kT 69)),
 kO 71 (.iX [kZ,kZ] [(0,1,(kT 61)),(1,1,(kT 70))]),
 kO 13 (.alloc 106 [kZ,kZ]),
 ⟨none,.store 2 (kT 13) (kT 71),none⟩]
 [⟨kF,kE,fL9,fL8⟩,
 ⟨kF,kE,fL9,fL8⟩,
 ⟨kF,kE,fL9,fL8⟩,
 ⟨kF,kE,fL9,fL8⟩,
 ⟨kF,kE,fL9,fL8⟩,
 ⟨kF,kE,fL9,fL8⟩,
 ⟨kF,kE,fL9,fL8⟩,
 ⟨kF,kE,fL9,fL8⟩,
 ⟨kF,kE,fL9,fL8⟩,
 ⟨kF,kE,fL9,fL8⟩,
 ⟨kF,kE,fL9,fL8⟩,
 ⟨kF,kE,fL9,fL8⟩,
 ⟨kF,kE,fL9,fL8⟩,
 ⟨kF,kE,fL9,fL8⟩,
 ⟨kF,kE,fL9,fL8⟩,
 ⟨kF,kE,fL9,fL8⟩,
 ⟨kF,kE,fL9,fL8⟩,
 ⟨kF,kE,fL9,fL8⟩,
 ⟨kF,kE,fL9,fL8⟩,
 ⟨kE,kF,fL9,fL8⟩,
 ⟨kE,kF,fL8,[kF,kF,kF,kF,kF,kF,kF,kF,kF,kF,kF,kF,kF,kF,kF,kF,kF,kF,kF,kE,kE]⟩])
 (.seq (.ops [kO 72 (.mov (kT 7)),
 kO 73 (.bK 2 (kT 13)),
 kO 74 (.raw (.lookup 131 (kT 72) (kT 73) kF) 4),
 kO 75 (.not (kT 74))])
 (.cond (kT 75) (.seq (.ops [kO 76 (.mov (kT 7)),
 kO 77 (.bK 2 (kT 13)),
 ⟨none,.raw (.mapUpdate 131 (kT 76) (kT 77) (.const (.bool kE))) 0,none⟩])
 (.ops [kO 78 (.mov (kT 8)),
 kO 79 (.bK 2 (kT 13)),
 kO 80 (.mov (kT 10)),
 kO 81 (.mov (kT 12)),
 kO 82 (.iX [kZ,kZ,kZ,kZ] [(0,2,(kT 79)),(2,1,(kT 80)),(3,1,(kT 81))]),
 kO 83 (.fP 133 1 [kZ,kZ,kZ,kZ] [(0,4,(kT 82))]),
 kO 84 (.append 133 4 32 (kT 78) (kT 83)),
 kO 8 (.mov (kT 84))]))
 .skip)))))
 (.ops [kO 85 (kA .add (kT 50) (kC 1)),
 kO 50 (.mov (kT 85))]))))))))))
 (.ops [kO 27 (.mov (kT 10)),
 kO 28 (kA .add (kT 27) (kC 1)),
 kO 10 (.mov (kT 28))]))))))
 (.seq (.seq (.ops [kO 86 (.mov (kT 9)),
 kO 87 (kA .lss (kT 86) (kC 0))])
 (.cond (kT 87) (.seq (.ops [kO 4 (.mov (kC 0)),
 kO 5 (.mov (.const (.bool kF)))])
 .ret)
 .skip))
 (.seq (.ops [kO 14 (.mov (kC 0))])
 (.seq (.seq (.ops [kO 88 (.mov (kT 9)),
 kO 15 (.mov (kT 88))])
 (.block 4 (.loop (.seq (.seq (.ops [kO 89 (.mov (kT 8)),
 kO 90 (.mov (kT 15)),
 kO 91 (.cZ 4 (kT 89) (kT 90)),
 kO 92 (.bN 2 (kT 91)),
 kO 93 (.aQ (kT 92)),
 kO 94 (kA .geq (kT 93) (kC 0))])
 (.cond (kT 94) .skip
 (.exit 4)))
 (.seq (.block 5 (.ops [kO 100 (.mov (kT 14)),
 kO 101 (.bN 0 (kT 2)),
 kO 102 (.aQ (kT 101)),
 kO 103 (kA .mul (kT 100) (kT 102)),
 kO 104 (.mov (kT 8)),
 kO 105 (.mov (kT 15)),
 kO 106 (.cZ 4 (kT 104) (kT 105)),
 kO 107 (.bN 3 (kT 106)),
 kO 108 (.aQ (kT 107)),
 kO 109 (kA .add (kT 103) (kT 108)),
 kO 14 (.mov (kT 109))]))
 (.ops [kO 95 (.mov (kT 8)),
 kO 96 (.mov (kT 15)),
 kO 97 (.cZ 4 (kT 95) (kT 96)),
 kO 98 (.bN 2 (kT 97)),
 kO 99 (.aQ (kT 98)),
 kO 15 (.mov (kT 99))]))))))
 (.seq (.ops [kO 110 (.mov (kT 14)),
 kO 4 (.mov (kT 110)),
 kO 5 (.mov (.const (.bool kE)))])
 .ret))))))))))))
theorem enter65 (hl : xs.length ≤ 111)(w : wq E 111 none c65 (bM xs) h [] (bU E [.tmp 4,.tmp 5] Q)) : aJ E 65 xs h Q :=
  aJ.bV (fn := Try.f65) (bY Try.func65) (code := Try.f65.body.get rfl) rfl rfl rfl (by kernel_rfl) rfl (fun _ => rfl) hl w
theorem can65 : callable E 65 = true := aV Try.func65 rfl rfl
def c66 : C := (.seq (.ops [kO 1 (.box 25 (kT 0)),
 kO 2 (.alloc 25 [kZ,kN,kN]),
 kO 3 (.mov (kC 0))])
 (.seq (.ops [kO 5 (.bK 3 (kT 1)),
 kO 6 (.call 63 [.tmp 5]),
 kO 4 (.alloc 25 [kZ,kN,kN]),
 ⟨none,.store 3 (kT 4) (kT 6),none⟩])
 (.seq (.seq (.ops [kO 7 (.bN 1 (kT 4)),
 kO 8 (.aQ (kT 7)),
 kO 9 (.dX (kT 8)),
 kO 10 (kA .gtr (kT 9) (kC 12))])
 (.cond (kT 10) (.seq (.ops [kO 11 (.iX [kZ,kN,kN] []),
 ⟨none,.store 3 (kT 2) (kT 11),none⟩,
 kO 3 (.mov (kC 8))])
 .ret)
 .skip))
 (.seq (.ops [kO 12 (.bK 3 (kT 4)),
 ⟨none,.store 3 (kT 2) (kT 12),none⟩,
 kO 3 (.mov (kC 0))])
 .ret))))
theorem enter66 (hl : xs.length ≤ 13)(w : wq E 13 none c66 (bM xs) h [] (bU E [.cell 2 25,.tmp 3] Q)) : aJ E 66 xs h Q :=
  aJ.bV (fn := Try.f66) (bY Try.func66) (code := Try.f66.body.get rfl) rfl rfl rfl (by kernel_rfl) rfl (fun _ => rfl) hl w
theorem can66 : callable E 66 = true := aV Try.func66 rfl rfl
def c67 : C := (.seq (.ops [kO 3 (.box 25 (kT 0)),
 kO 4 (.box 3 (kT 1)),
 kO 6 (.alloc 25 [kZ,kN,kN])])
 (.seq (.ops [kO 9 (.func (.func 95) [] [.tmp 3]),
 kO 7 (.mov (kT 9))])
 (.seq (.ops [kO 10 (.func (.func 96) [] [.tmp 4,.tmp 3]),
 kO 8 (.mov (kT 10))])
 (.seq (.ops [kO 11 (.bN 0 (kT 3)),
 kO 12 (.aQ (kT 11)),
 kO 13 (.mov (kT 2)),
 kO 14 (.iX [kZ,kZ] [(0,1,(kC 0)),(1,1,(kT 13))]),
 kO 15 (.mov (kT 7)),
 kO 16 (.mov (kT 8)),
 kO 17 (.call 97 [.tmp 12,.tmp 14,.tmp 15,.tmp 16]),
 ⟨none,.store 3 (kT 6) (kT 17),none⟩])
 .ret))))
theorem enter67 (hl : xs.length ≤ 18)(w : wq E 18 none c67 (bM xs) h [] (bU E [.cell 6 25] Q)) : aJ E 67 xs h Q :=
  aJ.bV (fn := Try.f67) (bY Try.func67) (code := Try.f67.body.get rfl) rfl rfl rfl (by kernel_rfl) rfl (fun _ => rfl) hl w
theorem can67 : callable E 67 = true := aV Try.func67 rfl rfl
def c68 : C := (.seq (.ops [kO 4 (.mov (kC 0))])
 (.seq (.ops [kO 5 (.bN 1 (kT 2)),
 kO 6 (.aQ (kT 5)),
 kO 7 (.mov (kT 0)),
 kO 8 (.cZ 1 (kT 6) (kT 7)),
 kO 9 (.aQ (kT 8)),
 kO 10 (.GV 10 1 (kT 1) (kT 9)),
 kO 11 (.aQ (kT 10)),
 kO 4 (.mov (kT 11))])
 .ret))
theorem enter68 (hl : xs.length ≤ 12)(w : wq E 12 none c68 (bM xs) h [] (bU E [.tmp 4] Q)) : aJ E 68 xs h Q :=
  aJ.bV (fn := Try.f68) (bY Try.func68) (code := Try.f68.body.get rfl) rfl rfl rfl (by kernel_rfl) rfl (fun _ => rfl) hl w
theorem can68 : callable E 68 = true := aV Try.func68 rfl rfl
def c69 : C := (.seq (.ops [kO 5 (.mov (kC 0))])
 (.seq (.ops [kO 6 (.bN 2 (kT 2)),
 kO 7 (.aQ (kT 6)),
 kO 8 (.mov (kT 0)),
 kO 9 (.cZ 1 (kT 7) (kT 8)),
 kO 10 (.aQ (kT 9)),
 kO 11 (.mov (kT 1)),
 kO 12 (.cZ 1 (kT 10) (kT 11)),
 kO 13 (.aQ (kT 12)),
 kO 5 (.mov (kT 13))])
 .ret))
theorem enter69 (hl : xs.length ≤ 14)(w : wq E 14 none c69 (bM xs) h [] (bU E [.tmp 5] Q)) : aJ E 69 xs h Q :=
  aJ.bV (fn := Try.f69) (bY Try.func69) (code := Try.f69.body.get rfl) rfl rfl rfl (by kernel_rfl) rfl (fun _ => rfl) hl w
theorem can69 : callable E 69 = true := aV Try.func69 rfl rfl
def c70 : C := (.seq (.ops [kO 8 (.alloc 25 [kZ,kN,kN])])
 (.seq (.ops [kO 18 (.mov (kT 0)),
 kO 19 (.iX [kZ,kN,kN] [(0,1,(kT 18))]),
 kO 9 (.alloc 25 [kZ,kN,kN]),
 ⟨none,.store 3 (kT 9) (kT 19),none⟩])
 (.seq (.ops [kO 20 (.iC),
 kO 21 (.mov (kT 1)),
 ⟨none,.raw (.insert 114 (kT 20) (kT 21) (kC 0)) 0,none⟩,
 kO 22 (.mov (kT 20)),
 kO 10 (.mov (kT 22))])
 (.seq (.ops [kO 23 (.mov (kT 1)),
 kO 24 (.fP 3 1 [kZ] [(0,1,(kT 23))]),
 kO 11 (.mov (kT 24))])
 (.seq (.seq (.ops [kO 12 (.mov (kC 0))])
 (.block 0 (.loop (.seq (.seq (.ops [kO 25 (.mov (kT 12)),
 kO 26 (.mov (kT 11)),
 kO 27 (.dX (kT 26)),
 kO 28 (kA .lss (kT 25) (kT 27))])
 (.cond (kT 28) .skip
 (.exit 0)))
 (.seq (.block 1 (.seq (.draw [kO 31 (.bN 1 (kT 9)),
 kO 32 (.aQ (kT 31)),
 kO 33 (.mov (kT 2)),
 kO 34 (.mov (kT 11)),
 kO 35 (.mov (kT 12)),
 kO 36 (.cZ 1 (kT 34) (kT 35)),
 kO 37 (.aQ (kT 36)),
 kO 38 (.pK (kT 33) [.tmp 37]),
 kO 39 (.fP 3 1 [kZ] [(0,1,(kT 38))]),
 kO 40 (.append 3 1 8 (kT 32) (kT 39)),
 kO 41 (.bN 1 (kT 9)),
 ⟨none,.store 1 (kT 41) (kT 40),none⟩]
 [⟨kF,kE,fL0,fL15⟩,
 ⟨kF,kE,fL0,fL15⟩,
 ⟨kF,kF,fL0,fL0⟩,
 ⟨kF,kF,fL0,fL0⟩,
 ⟨kF,kF,fL0,fL0⟩,
 ⟨kF,kF,fL0,fL0⟩,
 ⟨kF,kF,fL0,fL0⟩,
 ⟨kE,kF,fL0,fL29⟩,
 ⟨kE,kF,fL29,fL15⟩,
 ⟨kE,kF,fL15,fL16⟩,
 ⟨kF,kF,fL16,fL16⟩,
 ⟨kE,kF,fL16,fL48⟩])
 (.seq (.ops [kO 42 (.mov (kT 0)),
 kO 43 (.make 3 [kZ] 8 (kT 42) (kT 42)),
 kO 13 (.mov (kT 43))])
 (.seq (.seq (.ops [kO 44 (.mov (kT 13)),
 kO 45 (.dX (kT 44)),
 kO 46 (.mov (kC 0))])
 (.block 2 (.loop (.seq (.ops [kO 47 (kA .lss (kT 46) (kT 45))])
 (.seq (.cond (kT 47) .skip
 (.exit 2))
 (.seq (.block 3 (.seq (.ops [kO 48 (.mov (kT 46)),
 kO 14 (.mov (kT 48))])
 (.seq (.ops [kO 49 (.mov (kT 3)),
 kO 50 (.mov (kT 11)),
 kO 51 (.mov (kT 12)),
 kO 52 (.cZ 1 (kT 50) (kT 51)),
 kO 53 (.aQ (kT 52)),
 kO 54 (.mov (kT 14)),
 kO 55 (.pK (kT 49) [.tmp 53,.tmp 54]),
 kO 15 (.mov (kT 55))])
 (.seq (.seq (.ops [kO 57 (.mov (kT 10)),
 kO 58 (.mov (kT 15)),
 kO 59 (.raw (.lookup 114 (kT 57) (kT 58) kE) 115),
 kO 56 (.mov (kT 59)),
 kO 60 (.ext (kT 56) 0),
 kO 61 (.ext (kT 56) 1),
 kO 16 (.mov (kT 60)),
 kO 17 (.mov (kT 61))])
 (.seq (.ops [kO 62 (.mov (kT 17)),
 kO 63 (.not (kT 62))])
 (.cond (kT 63) (.seq (.ops [kO 64 (.mov (kT 10)),
 kO 65 (.mov (kT 15)),
 kO 66 (.mov (kT 11)),
 kO 67 (.dX (kT 66)),
 ⟨none,.raw (.mapUpdate 114 (kT 64) (kT 65) (kT 67)) 0,none⟩])
 (.ops [kO 68 (.mov (kT 11)),
 kO 69 (.mov (kT 15)),
 kO 70 (.fP 3 1 [kZ] [(0,1,(kT 69))]),
 kO 71 (.append 3 1 8 (kT 68) (kT 70)),
 kO 11 (.mov (kT 71))]))
 .skip)))
 (.ops [kO 72 (.mov (kT 13)),
 kO 73 (.mov (kT 14)),
 kO 74 (.mov (kT 10)),
 kO 75 (.mov (kT 15)),
 kO 76 (.raw (.lookup 114 (kT 74) (kT 75) kF) 3),
 kO 77 (.cZ 1 (kT 72) (kT 73)),
 ⟨none,.store 1 (kT 77) (kT 76),none⟩])))))
 (.ops [kO 78 (kA .add (kT 46) (kC 1)),
 kO 46 (.mov (kT 78))])))))))
 (.ops [kO 79 (.bN 2 (kT 9)),
 kO 80 (.aQ (kT 79)),
 kO 81 (.mov (kT 13)),
 kO 82 (.fP 22 1 [kN] [(0,1,(kT 81))]),
 kO 83 (.append 22 1 24 (kT 80) (kT 82)),
 kO 84 (.bN 2 (kT 9)),
 ⟨none,.store 1 (kT 84) (kT 83),none⟩])))))
 (.ops [kO 29 (.mov (kT 12)),
 kO 30 (kA .add (kT 29) (kC 1)),
 kO 12 (.mov (kT 30))]))))))
 (.seq (.ops [kO 85 (.bK 3 (kT 9)),
 ⟨none,.store 3 (kT 8) (kT 85),none⟩])
 .ret))))))
theorem enter70 (hl : xs.length ≤ 86)(w : wq E 86 none c70 (bM xs) h [] (bU E [.cell 8 25] Q)) : aJ E 70 xs h Q :=
  aJ.bV (fn := Try.f70) (bY Try.func70) (code := Try.f70.body.get rfl) rfl rfl rfl (by kernel_rfl) rfl (fun _ => rfl) hl w
theorem can70 : callable E 70 = true := aV Try.func70 rfl rfl
def c71 : C := (.seq (.ops [kO 2 (.alloc 102 [kZ,kZ,kZ,kZ,kZ,kZ,kZ,kZ,kZ,kZ,kZ,kZ,kZ,kZ,kZ,kZ,kZ,kZ,kZ,kZ,kZ,kZ,kZ,kZ,kZ,kZ,kZ,kZ,kZ,kZ,kZ,kZ,kZ,kZ,kZ,kZ,kZ,kZ,kZ,kZ,kZ,kZ,kZ,kZ,kZ,kZ,kZ,kZ,kZ,kZ,kZ,kZ,kZ,kZ,kZ,kZ,kZ,kZ,kZ,kZ,kZ,kZ,kZ,kZ,kZ,kZ,kZ,kZ,kZ,kZ,kZ,kZ,kZ,kZ,kZ,kZ,kZ,kZ,kZ,kZ,kZ,kZ,kZ,kZ,kZ,kZ,kZ,kZ,kZ,kZ,kZ,kZ,kZ,kZ,kZ,kZ,kZ,kZ,kZ,kZ]),
 kO 3 (.mov (.const (.bool kF)))])
 (.seq (.ops [kO 4 (.alloc 102 [kZ,kZ,kZ,kZ,kZ,kZ,kZ,kZ,kZ,kZ,kZ,kZ,kZ,kZ,kZ,kZ,kZ,kZ,kZ,kZ,kZ,kZ,kZ,kZ,kZ,kZ,kZ,kZ,kZ,kZ,kZ,kZ,kZ,kZ,kZ,kZ,kZ,kZ,kZ,kZ,kZ,kZ,kZ,kZ,kZ,kZ,kZ,kZ,kZ,kZ,kZ,kZ,kZ,kZ,kZ,kZ,kZ,kZ,kZ,kZ,kZ,kZ,kZ,kZ,kZ,kZ,kZ,kZ,kZ,kZ,kZ,kZ,kZ,kZ,kZ,kZ,kZ,kZ,kZ,kZ,kZ,kZ,kZ,kZ,kZ,kZ,kZ,kZ,kZ,kZ,kZ,kZ,kZ,kZ,kZ,kZ,kZ,kZ,kZ,kZ])])
 (.seq (.seq (.ops [kO 7 (.mov (kT 0)),
 kO 8 (.dX (kT 7)),
 kO 9 (kA .neq (kT 8) (kC 10))])
 (.cond (kT 9) (.seq (.ops [kO 10 (.bK 100 (kT 4)),
 ⟨none,.store 100 (kT 2) (kT 10),none⟩,
 kO 3 (.mov (.const (.bool kF)))])
 .ret)
 .skip))
 (.seq (.seq (.ops [kO 11 (.mov (kT 0)),
 kO 12 (.dX (kT 11)),
 kO 13 (.mov (kC 0))])
 (.block 0 (.loop (.seq (.ops [kO 14 (kA .lss (kT 13) (kT 12))])
 (.seq (.cond (kT 14) .skip
 (.exit 0))
 (.seq (.block 1 (.seq (.ops [kO 15 (.mov (kT 13)),
 kO 16 (.cZ 1 (kT 11) (kT 13)),
 kO 17 (.aQ (kT 16)),
 kO 5 (.mov (kT 15)),
 kO 6 (.mov (kT 17))])
 (.seq (.seq (.ops [kO 18 (.mov (kT 6)),
 kO 19 (.dX (kT 18)),
 kO 20 (kA .neq (kT 19) (kC 10)),
 kO 21 (.mov (kT 20)),
 ⟨some 22,.mov (kT 6),(some (21,kF))⟩,
 ⟨some 23,.call 57 [.tmp 22],(some (21,kF))⟩,
 ⟨some 24,.not (kT 23),(some (21,kF))⟩,
 kO 25 (.pick (kT 21) (.const (.bool kE)) (kT 24))])
 (.cond (kT 25) (.seq (.ops [kO 26 (.bK 100 (kT 4)),
 ⟨none,.store 100 (kT 2) (kT 26),none⟩,
 kO 3 (.mov (.const (.bool kF)))])
 .ret)
 .skip))
 (.ops [kO 27 (.mov (kT 5)),
 kO 28 (.mov (kT 6)),
 kO 29 (.GU 10 (kT 28)),
 kO 30 (.bK 10 (kT 29)),
 kO 31 (.GV 10 10 (kT 4) (kT 27)),
 ⟨none,.store 10 (kT 31) (kT 30),none⟩]))))
 (.ops [kO 32 (kA .add (kT 13) (kC 1)),
 kO 13 (.mov (kT 32))])))))))
 (.seq (.ops [kO 33 (.bK 100 (kT 4)),
 ⟨none,.store 100 (kT 2) (kT 33),none⟩,
 kO 3 (.mov (.const (.bool kE)))])
 .ret)))))
theorem enter71 (hl : xs.length ≤ 34)(w : wq E 34 none c71 (bM xs) h [] (bU E [.cell 2 102,.tmp 3] Q)) : aJ E 71 xs h Q :=
  aJ.bV (fn := Try.f71) (bY Try.func71) (code := Try.f71.body.get rfl) rfl rfl rfl (by kernel_rfl) rfl (fun _ => rfl) hl w
theorem can71 : callable E 71 = true := aV Try.func71 rfl rfl
def c72 : C := (.seq (.ops [kO 4 (.box 106 (kT 0)),
 kO 5 (.mov (kC 0))])
 (.seq (.ops [kO 6 (.bN 1 (kT 2)),
 kO 7 (.aQ (kT 6)),
 kO 8 (.bN 0 (kT 4)),
 kO 9 (.aQ (kT 8)),
 kO 10 (.cZ 1 (kT 7) (kT 9)),
 kO 11 (.aQ (kT 10)),
 kO 12 (.bN 1 (kT 3)),
 kO 13 (.aQ (kT 12)),
 kO 14 (.bN 1 (kT 4)),
 kO 15 (.aQ (kT 14)),
 kO 16 (.cZ 1 (kT 13) (kT 15)),
 kO 17 (.aQ (kT 16)),
 kO 18 (.GV 10 10 (kT 1) (kT 11)),
 kO 19 (.GV 10 1 (kT 18) (kT 17)),
 kO 20 (.aQ (kT 19)),
 kO 5 (.mov (kT 20))])
 .ret))
theorem enter72 (hl : xs.length ≤ 21)(w : wq E 21 none c72 (bM xs) h [] (bU E [.tmp 5] Q)) : aJ E 72 xs h Q :=
  aJ.bV (fn := Try.f72) (bY Try.func72) (code := Try.f72.body.get rfl) rfl rfl rfl (by kernel_rfl) rfl (fun _ => rfl) hl w
theorem can72 : callable E 72 = true := aV Try.func72 rfl rfl
def c73 : C := (.seq (.ops [kO 4 (.box 106 (kT 0)),
 kO 6 (.alloc 106 [kZ,kZ])])
 (.seq (.ops [kO 7 (.bN 2 (kT 2)),
 kO 8 (.aQ (kT 7)),
 kO 9 (.bN 0 (kT 4)),
 kO 10 (.aQ (kT 9)),
 kO 11 (.cZ 1 (kT 8) (kT 10)),
 kO 12 (.aQ (kT 11)),
 kO 13 (.mov (kT 1)),
 kO 14 (.cZ 1 (kT 12) (kT 13)),
 kO 15 (.aQ (kT 14)),
 kO 16 (.bN 2 (kT 3)),
 kO 17 (.aQ (kT 16)),
 kO 18 (.bN 1 (kT 4)),
 kO 19 (.aQ (kT 18)),
 kO 20 (.cZ 1 (kT 17) (kT 19)),
 kO 21 (.aQ (kT 20)),
 kO 22 (.mov (kT 1)),
 kO 23 (.cZ 1 (kT 21) (kT 22)),
 kO 24 (.aQ (kT 23)),
 kO 25 (.iX [kZ,kZ] [(0,1,(kT 15)),(1,1,(kT 24))]),
 ⟨none,.store 2 (kT 6) (kT 25),none⟩])
 .ret))
theorem enter73 (hl : xs.length ≤ 26)(w : wq E 26 none c73 (bM xs) h [] (bU E [.cell 6 106] Q)) : aJ E 73 xs h Q :=
  aJ.bV (fn := Try.f73) (bY Try.func73) (code := Try.f73.body.get rfl) rfl rfl rfl (by kernel_rfl) rfl (fun _ => rfl) hl w
theorem can73 : callable E 73 = true := aV Try.func73 rfl rfl
def c74 : C := (.seq (.ops [kO 5 (.box 106 (kT 1)),
 kO 8 (.alloc 25 [kZ,kN,kN])])
 (.seq (.ops [kO 18 (.mov (kT 0)),
 kO 19 (.iX [kZ,kN,kN] [(0,1,(kT 18))]),
 kO 9 (.alloc 25 [kZ,kN,kN]),
 ⟨none,.store 3 (kT 9) (kT 19),none⟩])
 (.seq (.ops [kO 20 (.iC),
 kO 21 (.bK 2 (kT 5)),
 ⟨none,.raw (.insert 140 (kT 20) (kT 21) (kC 0)) 0,none⟩,
 kO 22 (.mov (kT 20)),
 kO 10 (.mov (kT 22))])
 (.seq (.ops [kO 23 (.bK 2 (kT 5)),
 kO 24 (.fP 106 1 [kZ,kZ] [(0,2,(kT 23))]),
 kO 11 (.mov (kT 24))])
 (.seq (.seq (.ops [kO 12 (.mov (kC 0))])
 (.block 0 (.loop (.seq (.seq (.ops [kO 25 (.mov (kT 12)),
 kO 26 (.mov (kT 11)),
 kO 27 (.dX (kT 26)),
 kO 28 (kA .lss (kT 25) (kT 27))])
 (.cond (kT 28) .skip
 (.exit 0)))
 (.seq (.block 1 (.seq (.draw [kO 31 (.bN 1 (kT 9)),
 kO 32 (.aQ (kT 31)),
 kO 33 (.mov (kT 2)),
 kO 34 (.mov (kT 11)),
 kO 35 (.mov (kT 12)),
 kO 36 (.cZ 2 (kT 34) (kT 35)),
 kO 37 (.bK 2 (kT 36)),
 kO 38 (.pK (kT 33) [.tmp 37]),
 kO 39 (.fP 3 1 [kZ] [(0,1,(kT 38))]),
 kO 40 (.append 3 1 8 (kT 32) (kT 39)),
 kO 41 (.bN 1 (kT 9)),
 ⟨none,.store 1 (kT 41) (kT 40),none⟩]
 [⟨kF,kE,fL0,fL15⟩,
 ⟨kF,kE,fL0,fL15⟩,
 ⟨kF,kF,fL0,fL0⟩,
 ⟨kF,kF,fL0,fL0⟩,
 ⟨kF,kF,fL0,fL0⟩,
 ⟨kF,kF,fL0,fL0⟩,
 ⟨kF,kF,fL0,fL0⟩,
 ⟨kE,kF,fL0,fL29⟩,
 ⟨kE,kF,fL29,fL15⟩,
 ⟨kE,kF,fL15,fL16⟩,
 ⟨kF,kF,fL16,fL16⟩,
 ⟨kE,kF,fL16,fL48⟩])
 (.seq (.ops [kO 42 (.mov (kT 0)),
 kO 43 (.make 3 [kZ] 8 (kT 42) (kT 42)),
 kO 13 (.mov (kT 43))])
 (.seq (.seq (.ops [kO 44 (.mov (kT 13)),
 kO 45 (.dX (kT 44)),
 kO 46 (.mov (kC 0))])
 (.block 2 (.loop (.seq (.ops [kO 47 (kA .lss (kT 46) (kT 45))])
 (.seq (.cond (kT 47) .skip
 (.exit 2))
 (.seq (.block 3 (.seq (.ops [kO 48 (.mov (kT 46)),
 kO 14 (.mov (kT 48))])
 (.seq (.ops [kO 49 (.mov (kT 3)),
 kO 50 (.mov (kT 11)),
 kO 51 (.mov (kT 12)),
 kO 52 (.cZ 2 (kT 50) (kT 51)),
 kO 53 (.bK 2 (kT 52)),
 kO 54 (.mov (kT 14)),
 kO 55 (.pK (kT 49) [.tmp 53,.tmp 54]),
 kO 15 (.alloc 106 [kZ,kZ]),
 ⟨none,.store 2 (kT 15) (kT 55),none⟩])
 (.seq (.seq (.ops [kO 57 (.mov (kT 10)),
 kO 58 (.bK 2 (kT 15)),
 kO 59 (.raw (.lookup 140 (kT 57) (kT 58) kE) 115),
 kO 56 (.mov (kT 59)),
 kO 60 (.ext (kT 56) 0),
 kO 61 (.ext (kT 56) 1),
 kO 16 (.mov (kT 60)),
 kO 17 (.mov (kT 61))])
 (.seq (.ops [kO 62 (.mov (kT 17)),
 kO 63 (.not (kT 62))])
 (.cond (kT 63) (.seq (.ops [kO 64 (.mov (kT 10)),
 kO 65 (.bK 2 (kT 15)),
 kO 66 (.mov (kT 11)),
 kO 67 (.dX (kT 66)),
 ⟨none,.raw (.mapUpdate 140 (kT 64) (kT 65) (kT 67)) 0,none⟩])
 (.ops [kO 68 (.mov (kT 11)),
 kO 69 (.bK 2 (kT 15)),
 kO 70 (.fP 106 1 [kZ,kZ] [(0,2,(kT 69))]),
 kO 71 (.append 106 2 16 (kT 68) (kT 70)),
 kO 11 (.mov (kT 71))]))
 .skip)))
 (.ops [kO 72 (.mov (kT 13)),
 kO 73 (.mov (kT 14)),
 kO 74 (.mov (kT 10)),
 kO 75 (.bK 2 (kT 15)),
 kO 76 (.raw (.lookup 140 (kT 74) (kT 75) kF) 3),
 kO 77 (.cZ 1 (kT 72) (kT 73)),
 ⟨none,.store 1 (kT 77) (kT 76),none⟩])))))
 (.ops [kO 78 (kA .add (kT 46) (kC 1)),
 kO 46 (.mov (kT 78))])))))))
 (.ops [kO 79 (.bN 2 (kT 9)),
 kO 80 (.aQ (kT 79)),
 kO 81 (.mov (kT 13)),
 kO 82 (.fP 22 1 [kN] [(0,1,(kT 81))]),
 kO 83 (.append 22 1 24 (kT 80) (kT 82)),
 kO 84 (.bN 2 (kT 9)),
 ⟨none,.store 1 (kT 84) (kT 83),none⟩])))))
 (.ops [kO 29 (.mov (kT 12)),
 kO 30 (kA .add (kT 29) (kC 1)),
 kO 12 (.mov (kT 30))]))))))
 (.seq (.ops [kO 85 (.bK 3 (kT 9)),
 ⟨none,.store 3 (kT 8) (kT 85),none⟩])
 .ret))))))
theorem enter74 (hl : xs.length ≤ 86)(w : wq E 86 none c74 (bM xs) h [] (bU E [.cell 8 25] Q)) : aJ E 74 xs h Q :=
  aJ.bV (fn := Try.f74) (bY Try.func74) (code := Try.f74.body.get rfl) rfl rfl rfl (by kernel_rfl) rfl (fun _ => rfl) hl w
theorem can74 : callable E 74 = true := aV Try.func74 rfl rfl
def c77 : C := (.seq (.ops [kO 3 (.box 25 (kT 0)),
 kO 6 (.mov (.const (.bool kF)))])
 (.seq (.draw [kO 10 (.bK 3 (kT 3)),
 kO 11 (.mov (kT 1)),
 kO 12 (.call 67 [.tmp 10,(kC 1),.tmp 11]),
 kO 13 (.bK 3 (kT 3)),
 kO 14 (.mov (kT 1)),
 kO 15 (.mov (kT 2)),
 kO 16 (kA .add (kT 14) (kT 15)),
 kO 17 (.call 67 [.tmp 13,(kC 1),.tmp 16]),
 kO 18 (.call 65 [.tmp 12,.tmp 17]),
 kO 9 (.mov (kT 18)),
 kO 19 (.ext (kT 9) 0),
 kO 20 (.ext (kT 9) 1),
 kO 7 (.mov (kT 19)),
 kO 8 (.mov (kT 20))]
 [⟨kF,kF,fL25,fL25⟩,
 ⟨kF,kF,fL25,fL25⟩,
 ⟨kE,kF,fL25,fL34⟩,
 ⟨kF,kE,fL25,fL34⟩,
 ⟨kF,kE,fL25,fL34⟩,
 ⟨kF,kE,fL25,fL34⟩,
 ⟨kF,kE,fL25,fL34⟩,
 ⟨kE,kF,fL34,fL58⟩,
 ⟨kE,kF,fL58,fL21⟩,
 ⟨kF,kF,fL21,fL21⟩,
 ⟨kF,kF,fL21,fL21⟩,
 ⟨kF,kF,fL21,fL21⟩,
 ⟨kF,kF,fL21,fL21⟩,
 ⟨kF,kF,fL21,fL21⟩])
 (.seq (.ops [kO 21 (.mov (kT 8)),
 kO 22 (.not (kT 21)),
 kO 6 (.mov (kT 22))])
 .ret)))
theorem enter77 (hl : xs.length ≤ 23)(w : wq E 23 none c77 (bM xs) h [] (bU E [.tmp 6] Q)) : aJ E 77 xs h Q :=
  aJ.bV (fn := Try.f77) (bY Try.func77) (code := Try.f77.body.get rfl) rfl rfl rfl (by kernel_rfl) rfl (fun _ => rfl) hl w
theorem can77 : callable E 77 = true := aV Try.func77 rfl rfl
def c78 : C := (.seq (.ops [kO 2 (.box 25 (kT 0)),
 kO 4 (.mov (kC 0))])
 (.seq (.ops [kO 5 (.mov (kC 60))])
 (.seq (.block 0 (.loop (.seq (.seq (.draw [kO 6 (.mov (kT 5)),
 kO 7 (kA .gtr (kT 6) (kC 0)),
 kO 8 (.mov (kT 7)),
 ⟨some 9,.bK 3 (kT 2),(some (8,kE))⟩,
 ⟨some 10,.mov (kT 5),(some (8,kE))⟩,
 ⟨some 11,kA .sub (kT 10) (kC 1),(some (8,kE))⟩,
 ⟨some 12,.call 62 [.tmp 9,(kC 0),.tmp 11],(some (8,kE))⟩,
 ⟨some 13,.bK 3 (kT 2),(some (8,kE))⟩,
 ⟨some 14,.mov (kT 5),(some (8,kE))⟩,
 ⟨some 15,kA .sub (kT 14) (kC 1),(some (8,kE))⟩,
 ⟨some 16,.mov (kT 1),(some (8,kE))⟩,
 ⟨some 17,kA .add (kT 15) (kT 16),(some (8,kE))⟩,
 ⟨some 18,.call 62 [.tmp 13,(kC 0),.tmp 17],(some (8,kE))⟩,
 ⟨some 19,kA .eql (kT 12) (kT 18),(some (8,kE))⟩,
 kO 20 (.pick (kT 8) (kT 19) (.const (.bool kF)))]
 [⟨kF,kF,fL12,fL12⟩,
 ⟨kF,kF,fL12,fL12⟩,
 ⟨kF,kF,fL12,fL12⟩,
 ⟨kF,kF,fL12,fL12⟩,
 ⟨kF,kF,fL12,fL12⟩,
 ⟨kF,kF,fL12,fL12⟩,
 ⟨kE,kF,fL12,fL31⟩,
 ⟨kF,kE,fL12,fL31⟩,
 ⟨kF,kE,fL12,fL31⟩,
 ⟨kF,kE,fL12,fL31⟩,
 ⟨kF,kE,fL12,fL31⟩,
 ⟨kF,kE,fL12,fL31⟩,
 ⟨kE,kF,fL31,fL37⟩,
 ⟨kF,kF,fL37,fL37⟩,
 ⟨kF,kF,fL37,fL37⟩])
 (.cond (kT 20) .skip
 (.exit 0)))
 (.block 1 (.ops [kO 21 (.mov (kT 5)),
 kO 22 (kA .sub (kT 21) (kC 1)),
 kO 5 (.mov (kT 22))])))))
 (.seq (.ops [kO 23 (.mov (kT 5)),
 kO 4 (.mov (kT 23))])
 .ret))))
theorem enter78 (hl : xs.length ≤ 24)(w : wq E 24 none c78 (bM xs) h [] (bU E [.tmp 4] Q)) : aJ E 78 xs h Q :=
  aJ.bV (fn := Try.f78) (bY Try.func78) (code := Try.f78.body.get rfl) rfl rfl rfl (by kernel_rfl) rfl (fun _ => rfl) hl w
theorem can78 : callable E 78 = true := aV Try.func78 rfl rfl
def c79 : C := (.seq (.ops [kO 2 (.mov (.const (.bool kF)))])
 (.seq (.ops [kO 3 (.mov (kT 0)),
 kO 4 (kA .geq (kT 3) (kC 0)),
 kO 5 (.mov (kT 4)),
 ⟨some 6,.mov (kT 0),(some (5,kE))⟩,
 ⟨some 7,kA .lss (kT 6) (kC 10),(some (5,kE))⟩,
 kO 8 (.pick (kT 5) (kT 7) (.const (.bool kF))),
 kO 2 (.mov (kT 8))])
 .ret))
theorem enter79 (hl : xs.length ≤ 9)(w : wq E 9 none c79 (bM xs) h [] (bU E [.tmp 2] Q)) : aJ E 79 xs h Q :=
  aJ.bV (fn := Try.f79) (bY Try.func79) (code := Try.f79.body.get rfl) rfl rfl rfl (by kernel_rfl) rfl (fun _ => rfl) hl w
theorem can79 : callable E 79 = true := aV Try.func79 rfl rfl
def c80 : C := (.seq (.ops [kO 2 (.box 25 (kT 0)),
 kO 4 (.mov (kC 0)),
 kO 5 (.mov (.const (.bool kF)))])
 (.seq (.ops [kO 11 (.bN 1 (kT 2)),
 kO 12 (.aQ (kT 11)),
 kO 13 (.dX (kT 12)),
 kO 14 (.make 2 [kZ] 8 (kT 13) (kT 13)),
 kO 6 (.mov (kT 14))])
 (.seq (.seq (.ops [kO 15 (.bN 1 (kT 2)),
 kO 16 (.aQ (kT 15)),
 kO 17 (.dX (kT 16)),
 kO 18 (.mov (kC 0))])
 (.block 0 (.loop (.seq (.ops [kO 19 (kA .lss (kT 18) (kT 17))])
 (.seq (.cond (kT 19) .skip
 (.exit 0))
 (.seq (.block 1 (.seq (.ops [kO 20 (.mov (kT 18)),
 kO 21 (.cZ 1 (kT 16) (kT 18)),
 kO 22 (.aQ (kT 21)),
 kO 7 (.mov (kT 20)),
 kO 8 (.mov (kT 22))])
 (.seq (.ops [kO 23 (.mov (kT 6)),
 kO 24 (.mov (kT 7)),
 kO 25 (.cZ 1 (kT 23) (kT 24)),
 ⟨none,.store 1 (kT 25) (.const (.int .i64 (-1))),none⟩])
 (.seq (.ops [kO 26 (.mov (kT 8)),
 kO 27 (.mov (kT 1)),
 kO 28 (kA .eql (kT 26) (kT 27))])
 (.cond (kT 28) (.ops [kO 29 (.mov (kT 6)),
 kO 30 (.mov (kT 7)),
 kO 31 (.cZ 1 (kT 29) (kT 30)),
 ⟨none,.store 1 (kT 31) (kC 0),none⟩])
 .skip)))))
 (.ops [kO 32 (kA .add (kT 18) (kC 1)),
 kO 18 (.mov (kT 32))])))))))
 (.seq (.seq (.ops [kO 33 (.bN 1 (kT 2)),
 kO 34 (.aQ (kT 33)),
 kO 35 (.dX (kT 34)),
 kO 36 (.mov (kC 0))])
 (.block 2 (.loop (.seq (.ops [kO 37 (kA .lss (kT 36) (kT 35))])
 (.seq (.cond (kT 37) .skip
 (.exit 2))
 (.seq (.block 3 (.seq (.ops [kO 38 (.bN 1 (kT 2)),
 kO 39 (.aQ (kT 38)),
 kO 40 (.dX (kT 39)),
 kO 41 (.make 2 [kZ] 8 (kT 40) (kT 40)),
 kO 9 (.mov (kT 41))])
 (.seq (.seq (.ops [kO 42 (.bN 1 (kT 2)),
 kO 43 (.aQ (kT 42)),
 kO 44 (.dX (kT 43)),
 kO 45 (.mov (kC 0))])
 (.block 4 (.loop (.seq (.ops [kO 46 (kA .lss (kT 45) (kT 44))])
 (.seq (.cond (kT 46) .skip
 (.exit 4))
 (.seq (.block 5 (.seq (.ops [kO 47 (.mov (kT 45)),
 kO 10 (.mov (kT 47))])
 (.ops [kO 48 (.mov (kT 9)),
 kO 49 (.mov (kT 10)),
 kO 50 (.bK 3 (kT 2)),
 kO 51 (.mov (kT 6)),
 kO 52 (.mov (kT 10)),
 kO 53 (.call 98 [.tmp 50,.tmp 51,.tmp 52]),
 kO 54 (.cZ 1 (kT 48) (kT 49)),
 ⟨none,.store 1 (kT 54) (kT 53),none⟩])))
 (.ops [kO 55 (kA .add (kT 45) (kC 1)),
 kO 45 (.mov (kT 55))])))))))
 (.ops [kO 56 (.mov (kT 9)),
 kO 6 (.mov (kT 56))]))))
 (.ops [kO 57 (kA .add (kT 36) (kC 1)),
 kO 36 (.mov (kT 57))])))))))
 (.seq (.ops [kO 58 (.mov (kT 6)),
 kO 59 (.cZ 1 (kT 58) (kC 0)),
 kO 60 (.aQ (kT 59)),
 kO 61 (.raw (.call ⟨.builtin .max,⟨[.tmp 60,(kC 0)]⟩,⟨[2,2]⟩⟩) 2),
 kO 62 (.mov (kT 6)),
 kO 63 (.cZ 1 (kT 62) (kC 0)),
 kO 64 (.aQ (kT 63)),
 kO 65 (kA .geq (kT 64) (kC 0)),
 kO 4 (.mov (kT 61)),
 kO 5 (.mov (kT 65))])
 .ret)))))
theorem enter80 (hl : xs.length ≤ 66)(w : wq E 66 none c80 (bM xs) h [] (bU E [.tmp 4,.tmp 5] Q)) : aJ E 80 xs h Q :=
  aJ.bV (fn := Try.f80) (bY Try.func80) (code := Try.f80.body.get rfl) rfl rfl rfl (by kernel_rfl) rfl (fun _ => rfl) hl w
theorem can80 : callable E 80 = true := aV Try.func80 rfl rfl
def c81 : C := (.seq (.ops [kO 2 (.box 26 (kT 0)),
 kO 4 (.mov (.const kN))])
 (.seq (.ops [kO 12 (.iC),
 kO 5 (.mov (kT 12))])
 (.seq (.ops [kO 6 (.mov (.const kN))])
 (.seq (.seq (.ops [kO 7 (.mov (kC 0))])
 (.block 0 (.loop (.seq (.seq (.ops [kO 13 (.mov (kT 7)),
 kO 14 (.bN 1 (kT 2)),
 kO 15 (.aQ (kT 14)),
 kO 16 (.dX (kT 15)),
 kO 17 (kA .lss (kT 13) (kT 16))])
 (.cond (kT 17) .skip
 (.exit 0)))
 (.seq (.block 1 (.seq (.draw [kO 20 (.bN 1 (kT 2)),
 kO 21 (.aQ (kT 20)),
 kO 22 (.mov (kT 7)),
 kO 23 (.cZ 1 (kT 21) (kT 22)),
 kO 24 (.aQ (kT 23)),
 kO 25 (.call 99 [.tmp 24]),
 kO 26 (.mov (kT 1)),
 kO 27 (.mov (kT 7)),
 kO 28 (.cZ 1 (kT 26) (kT 27)),
 kO 29 (.aQ (kT 28)),
 kO 30 (.call 99 [.tmp 29]),
 kO 31 (.str .add (kT 25) (kT 30)),
 kO 8 (.mov (kT 31))]
 [⟨kF,kF,fL6,fL6⟩,
 ⟨kF,kF,fL6,fL6⟩,
 ⟨kF,kF,fL6,fL6⟩,
 ⟨kF,kF,fL6,fL6⟩,
 ⟨kF,kF,fL6,fL6⟩,
 ⟨kE,kF,fL6,fL35⟩,
 ⟨kF,kE,fL6,fL35⟩,
 ⟨kF,kE,fL6,fL35⟩,
 ⟨kF,kE,fL6,fL35⟩,
 ⟨kF,kE,fL6,fL35⟩,
 ⟨kE,kF,fL35,fL38⟩,
 ⟨kF,kF,fL38,fL38⟩,
 ⟨kF,kF,fL38,fL38⟩])
 (.seq (.seq (.ops [kO 9 (.mov (kC 0))])
 (.block 2 (.loop (.seq (.seq (.ops [kO 32 (.mov (kT 9)),
 kO 33 (.bN 0 (kT 2)),
 kO 34 (.aQ (kT 33)),
 kO 35 (kA .lss (kT 32) (kT 34))])
 (.cond (kT 35) .skip
 (.exit 2)))
 (.seq (.block 3 (.ops [kO 38 (.mov (kT 8)),
 kO 39 (.mov (kT 1)),
 kO 40 (.bN 2 (kT 2)),
 kO 41 (.aQ (kT 40)),
 kO 42 (.mov (kT 7)),
 kO 43 (.cZ 1 (kT 41) (kT 42)),
 kO 44 (.aQ (kT 43)),
 kO 45 (.mov (kT 9)),
 kO 46 (.cZ 1 (kT 44) (kT 45)),
 kO 47 (.aQ (kT 46)),
 kO 48 (.cZ 1 (kT 39) (kT 47)),
 kO 49 (.aQ (kT 48)),
 kO 50 (.call 99 [.tmp 49]),
 kO 51 (.str .add (kT 38) (kT 50)),
 kO 8 (.mov (kT 51))]))
 (.ops [kO 36 (.mov (kT 9)),
 kO 37 (kA .add (kT 36) (kC 1)),
 kO 9 (.mov (kT 37))]))))))
 (.seq (.seq (.ops [kO 53 (.mov (kT 5)),
 kO 54 (.mov (kT 8)),
 kO 55 (.raw (.lookup 144 (kT 53) (kT 54) kE) 115),
 kO 52 (.mov (kT 55)),
 kO 56 (.ext (kT 52) 0),
 kO 57 (.ext (kT 52) 1),
 kO 10 (.mov (kT 56)),
 kO 11 (.mov (kT 57))])
 (.seq (.ops [kO 58 (.mov (kT 11)),
 kO 59 (.not (kT 58))])
 (.cond (kT 59) (.ops [kO 60 (.mov (kT 5)),
 kO 61 (.mov (kT 8)),
 kO 62 (.mov (kT 5)),
 kO 63 (.raw (.call ⟨.builtin .len,⟨[.tmp 62]⟩,⟨[144]⟩⟩) 3),
 ⟨none,.raw (.mapUpdate 144 (kT 60) (kT 61) (kT 63)) 0,none⟩])
 .skip)))
 (.ops [kO 64 (.mov (kT 6)),
 kO 65 (.mov (kT 5)),
 kO 66 (.mov (kT 8)),
 kO 67 (.raw (.lookup 144 (kT 65) (kT 66) kF) 3),
 kO 68 (.fP 3 1 [kZ] [(0,1,(kT 67))]),
 kO 69 (.append 3 1 8 (kT 64) (kT 68)),
 kO 6 (.mov (kT 69))])))))
 (.ops [kO 18 (.mov (kT 7)),
 kO 19 (kA .add (kT 18) (kC 1)),
 kO 7 (.mov (kT 19))]))))))
 (.seq (.ops [kO 70 (.mov (kT 6)),
 kO 4 (.mov (kT 70))])
 .ret)))))
theorem enter81 (hl : xs.length ≤ 71)(w : wq E 71 none c81 (bM xs) h [] (bU E [.tmp 4] Q)) : aJ E 81 xs h Q :=
  aJ.bV (fn := Try.f81) (bY Try.func81) (code := Try.f81.body.get rfl) rfl rfl rfl (by kernel_rfl) rfl (fun _ => rfl) hl w
theorem can81 : callable E 81 = true := aV Try.func81 rfl rfl
def c82 : C := (.seq (.ops [kO 2 (.mov (kC 0))])
 (.seq (.ops [kO 3 (.mov (kC 0))])
 (.seq (.seq (.ops [kO 4 (.mov (kC 0))])
 (.block 0 (.loop (.seq (.seq (.ops [kO 5 (.mov (kT 4)),
 kO 6 (.mov (kT 0)),
 kO 7 (.dX (kT 6)),
 kO 8 (kA .lss (kT 5) (kT 7))])
 (.cond (kT 8) .skip
 (.exit 0)))
 (.seq (.block 1 (.ops [kO 11 (.mov (kT 3)),
 kO 12 (.mov (kT 0)),
 kO 13 (.mov (kT 4)),
 kO 14 (.cZ 1 (kT 12) (kT 13)),
 kO 15 (.aQ (kT 14)),
 kO 16 (.raw (.call ⟨.builtin .max,⟨[.tmp 11,.tmp 15]⟩,⟨[3,3]⟩⟩) 3),
 kO 3 (.mov (kT 16))]))
 (.ops [kO 9 (.mov (kT 4)),
 kO 10 (kA .add (kT 9) (kC 1)),
 kO 4 (.mov (kT 10))]))))))
 (.seq (.ops [kO 17 (.mov (kT 3)),
 kO 18 (kA .add (kT 17) (kC 1)),
 kO 2 (.mov (kT 18))])
 .ret))))
theorem enter82 (hl : xs.length ≤ 19)(w : wq E 19 none c82 (bM xs) h [] (bU E [.tmp 2] Q)) : aJ E 82 xs h Q :=
  aJ.bV (fn := Try.f82) (bY Try.func82) (code := Try.f82.body.get rfl) rfl rfl rfl (by kernel_rfl) rfl (fun _ => rfl) hl w
theorem can82 : callable E 82 = true := aV Try.func82 rfl rfl
def c83 : C := (.seq (.ops [kO 5 (.box 64 (kT 2)),
 kO 6 (.mov (kC 0)),
 kO 7 (.mov (.const (.bool kF)))])
 (.seq (.ops [kO 11 (.mov (kT 1)),
 kO 12 (.bK 2 (kT 5)),
 kO 13 (.raw (.lookup 117 (kT 11) (kT 12) kE) 115),
 kO 10 (.mov (kT 13)),
 kO 14 (.ext (kT 10) 0),
 kO 15 (.ext (kT 10) 1),
 kO 8 (.mov (kT 14)),
 kO 9 (.mov (kT 15))])
 (.seq (.seq (.ops [kO 16 (.mov (kT 9)),
 kO 17 (.not (kT 16))])
 (.cond (kT 17) (.seq (.ops [kO 18 (.mov (kT 0)),
 kO 19 (.dX (kT 18)),
 kO 6 (.mov (kT 19)),
 kO 7 (.mov (.const (.bool kF)))])
 .ret)
 .skip))
 (.seq (.ops [kO 20 (.mov (kT 8)),
 kO 6 (.mov (kT 20)),
 kO 7 (.mov (.const (.bool kE)))])
 .ret))))
theorem enter83 (hl : xs.length ≤ 21)(w : wq E 21 none c83 (bM xs) h [] (bU E [.tmp 6,.tmp 7] Q)) : aJ E 83 xs h Q :=
  aJ.bV (fn := Try.f83) (bY Try.func83) (code := Try.f83.body.get rfl) rfl rfl rfl (by kernel_rfl) rfl (fun _ => rfl) hl w
theorem can83 : callable E 83 = true := aV Try.func83 rfl rfl
def c84 : C := (.seq (.ops [kO 2 (.mov (.const kN))])
 (.seq (.ops [kO 3 (.mov (.const kN))])
 (.seq (.seq (.ops [kO 6 (.mov (kT 0)),
 kO 7 (.dX (kT 6)),
 kO 8 (.mov (kC 0))])
 (.block 0 (.loop (.seq (.ops [kO 9 (kA .lss (kT 8) (kT 7))])
 (.seq (.cond (kT 9) .skip
 (.exit 0))
 (.seq (.block 1 (.seq (.ops [kO 10 (.cZ 1 (kT 6) (kT 8)),
 kO 11 (.aQ (kT 10)),
 kO 5 (.mov (kT 11))])
 (.ops [kO 12 (.mov (kT 3)),
 kO 13 (.mov (kT 5)),
 kO 14 (.append 3 1 8 (kT 12) (kT 13)),
 kO 3 (.mov (kT 14))])))
 (.ops [kO 15 (kA .add (kT 8) (kC 1)),
 kO 8 (.mov (kT 15))])))))))
 (.seq (.ops [kO 16 (.mov (kT 3)),
 kO 2 (.mov (kT 16))])
 .ret))))
theorem enter84 (hl : xs.length ≤ 17)(w : wq E 17 none c84 (bM xs) h [] (bU E [.tmp 2] Q)) : aJ E 84 xs h Q :=
  aJ.bV (fn := Try.f84) (bY Try.func84) (code := Try.f84.body.get rfl) rfl rfl rfl (by kernel_rfl) rfl (fun _ => rfl) hl w
theorem can84 : callable E 84 = true := aV Try.func84 rfl rfl
def c85 : C := (.seq (.ops [kO 2 (.box 121 (kT 0)),
 kO 3 (.box 3 (kT 1)),
 kO 4 (.alloc 25 [kZ,kN,kN])])
 (.seq (.ops [kO 7 (.func (.func 100) [] [.tmp 2]),
 kO 5 (.mov (kT 7))])
 (.seq (.ops [kO 8 (.func (.func 101) [] [.tmp 2,.tmp 3]),
 kO 6 (.mov (kT 8))])
 (.seq (.draw [kO 9 (.aQ (kT 3)),
 kO 10 (.bK 2 (kT 2)),
 kO 11 (.call 102 [.tmp 10,(kC 1)]),
 kO 12 (.iX [kZ,kZ] [(0,1,(kT 11)),(1,1,(kC 0))]),
 kO 13 (.mov (kT 5)),
 kO 14 (.mov (kT 6)),
 kO 15 (.call 103 [.tmp 9,.tmp 12,.tmp 13,.tmp 14]),
 ⟨none,.store 3 (kT 4) (kT 15),none⟩]
 [⟨kF,kE,fL7,fL32⟩,
 ⟨kF,kF,fL7,fL7⟩,
 ⟨kE,kF,fL7,fL32⟩,
 ⟨kF,kF,fL32,fL32⟩,
 ⟨kF,kE,fL7,fL32⟩,
 ⟨kF,kE,fL7,fL32⟩,
 ⟨kE,kF,fL32,fL59⟩,
 ⟨kE,kF,fL59,[kF,kF,kE,kF,kF,kF,kE,kE]⟩])
 .ret))))
theorem enter85 (hl : xs.length ≤ 16)(w : wq E 16 none c85 (bM xs) h [] (bU E [.cell 4 25] Q)) : aJ E 85 xs h Q :=
  aJ.bV (fn := Try.f85) (bY Try.func85) (code := Try.f85.body.get rfl) rfl rfl rfl (by kernel_rfl) rfl (fun _ => rfl) hl w
theorem can85 : callable E 85 = true := aV Try.func85 rfl rfl
def c89 : C := (.seq (.ops [kO 2 (.mov (.const (.bool kF)))])
 (.seq (.ops [kO 3 (.mov (kT 0)),
 kO 4 (.call 79 [.tmp 3]),
 kO 5 (.not (kT 4)),
 kO 2 (.mov (kT 5))])
 .ret))
theorem enter89 (hl : xs.length ≤ 6)(w : wq E 6 none c89 (bM xs) h [] (bU E [.tmp 2] Q)) : aJ E 89 xs h Q :=
  aJ.bV (fn := Try.f89) (bY Try.func89) (code := Try.f89.body.get rfl) rfl rfl rfl (by kernel_rfl) rfl (fun _ => rfl) hl w
theorem can89 : callable E 89 = true := aV Try.func89 rfl rfl
def c90 : C := (.seq (.ops [kO 4 (.mov (kC 0))])
 (.seq (.seq (.ops [kO 6 (.mov (kT 0)),
 kO 7 (.dX (kT 6)),
 kO 8 (.mov (kC 0))])
 (.block 0 (.loop (.seq (.ops [kO 9 (kA .lss (kT 8) (kT 7))])
 (.seq (.cond (kT 9) .skip
 (.exit 0))
 (.seq (.block 1 (.seq (.ops [kO 10 (.mov (kT 8)),
 kO 5 (.mov (kT 10))])
 (.seq (.ops [kO 11 (.mov (kT 1)),
 kO 12 (.mov (kT 0)),
 kO 13 (.mov (kT 5)),
 kO 14 (.cZ 1 (kT 12) (kT 13)),
 kO 15 (.aQ (kT 14)),
 kO 16 (.pK (kT 11) [.tmp 15])])
 (.cond (kT 16) (.seq (.ops [kO 17 (.mov (kT 5)),
 kO 4 (.mov (kT 17))])
 .ret)
 .skip))))
 (.ops [kO 18 (kA .add (kT 8) (kC 1)),
 kO 8 (.mov (kT 18))])))))))
 (.seq (.ops [kO 4 (.mov (.const (.int .i64 (-1))))])
 .ret)))
theorem enter90 (hl : xs.length ≤ 19)(w : wq E 19 none c90 (bM xs) h [] (bU E [.tmp 4] Q)) : aJ E 90 xs h Q :=
  aJ.bV (fn := Try.f90) (bY Try.func90) (code := Try.f90.body.get rfl) rfl rfl rfl (by kernel_rfl) rfl (fun _ => rfl) hl w
theorem can90 : callable E 90 = true := aV Try.func90 rfl rfl
def c91 : C := (.seq (.ops [kO 2 (.box 2 (kT 0)),
 kO 3 (.box 3 (kT 1)),
 kO 4 (.mov (.const .nilFunc))])
 (.seq (.ops [kO 5 (.func (.func 104) [] [.tmp 2,.tmp 3]),
 kO 4 (.mov (kT 5))])
 .ret))
theorem enter91 (hl : xs.length ≤ 6)(w : wq E 6 none c91 (bM xs) h [] (bU E [.tmp 4] Q)) : aJ E 91 xs h Q :=
  aJ.bV (fn := Try.f91) (bY Try.func91) (code := Try.f91.body.get rfl) rfl rfl rfl (by kernel_rfl) rfl (fun _ => rfl) hl w
theorem can91 : callable E 91 = true := aV Try.func91 rfl rfl
def c92 : C := (.seq (.ops [kO 1 (.box 25 (kT 0)),
 kO 2 (.mov (.const kN))])
 (.seq (.ops [kO 8 (.bK 3 (kT 1)),
 kO 9 (.bN 1 (kT 1)),
 kO 10 (.aQ (kT 9)),
 kO 11 (.call 105 [.tmp 8,.tmp 10]),
 kO 7 (.mov (kT 11)),
 kO 12 (.ext (kT 7) 0),
 kO 13 (.ext (kT 7) 1),
 kO 3 (.mov (kT 12)),
 kO 4 (.mov (kT 13))])
 (.block 0 (.loop (.block 1 (.seq (.ops [kO 15 (.bK 3 (kT 1)),
 kO 16 (.mov (kT 3)),
 kO 17 (.call 105 [.tmp 15,.tmp 16]),
 kO 14 (.mov (kT 17)),
 kO 18 (.ext (kT 14) 0),
 kO 19 (.ext (kT 14) 1),
 kO 5 (.mov (kT 18)),
 kO 6 (.mov (kT 19))])
 (.seq (.seq (.ops [kO 20 (.mov (kT 6)),
 kO 21 (.mov (kT 4)),
 kO 22 (kA .eql (kT 20) (kT 21))])
 (.cond (kT 22) (.seq (.ops [kO 23 (.mov (kT 3)),
 kO 2 (.mov (kT 23))])
 .ret)
 .skip))
 (.ops [kO 24 (.mov (kT 5)),
 kO 25 (.mov (kT 6)),
 kO 3 (.mov (kT 24)),
 kO 4 (.mov (kT 25))]))))))))
theorem enter92 (hl : xs.length ≤ 26)(w : wq E 26 none c92 (bM xs) h [] (bU E [.tmp 2] Q)) : aJ E 92 xs h Q :=
  aJ.bV (fn := Try.f92) (bY Try.func92) (code := Try.f92.body.get rfl) rfl rfl rfl (by kernel_rfl) rfl (fun _ => rfl) hl w
theorem can92 : callable E 92 = true := aV Try.func92 rfl rfl
def c93 : C := (.seq (.ops [kO 4 (.mov (kC 0))])
 (.seq (.ops [kO 5 (.bN 1 (kT 1)),
 kO 6 (.aQ (kT 5)),
 kO 7 (.aQ (kT 2)),
 kO 8 (.mov (kT 0)),
 kO 9 (.raw (.lookup 114 (kT 7) (kT 8) kF) 3),
 kO 10 (.cZ 1 (kT 6) (kT 9)),
 kO 11 (.aQ (kT 10)),
 kO 4 (.mov (kT 11))])
 .ret))
theorem enter93 (hl : xs.length ≤ 12)(w : wq E 12 none c93 (bM xs) h [] (bU E [.tmp 4] Q)) : aJ E 93 xs h Q :=
  aJ.bV (fn := Try.f93) (bY Try.func93) (code := Try.f93.body.get rfl) rfl rfl rfl (by kernel_rfl) rfl (fun _ => rfl) hl w
theorem can93 : callable E 93 = true := aV Try.func93 rfl rfl
def c94 : C := (.seq (.ops [kO 7 (.mov (kC 0))])
 (.seq (.ops [kO 8 (.aQ (kT 2)),
 kO 9 (.bN 2 (kT 3)),
 kO 10 (.aQ (kT 9)),
 kO 11 (.aQ (kT 4)),
 kO 12 (.mov (kT 0)),
 kO 13 (.raw (.lookup 114 (kT 11) (kT 12) kF) 3),
 kO 14 (.cZ 1 (kT 10) (kT 13)),
 kO 15 (.aQ (kT 14)),
 kO 16 (.mov (kT 1)),
 kO 17 (.cZ 1 (kT 15) (kT 16)),
 kO 18 (.aQ (kT 17)),
 kO 19 (.cZ 1 (kT 8) (kT 18)),
 kO 20 (.aQ (kT 19)),
 kO 7 (.mov (kT 20))])
 .ret))
theorem enter94 (hl : xs.length ≤ 21)(w : wq E 21 none c94 (bM xs) h [] (bU E [.tmp 7] Q)) : aJ E 94 xs h Q :=
  aJ.bV (fn := Try.f94) (bY Try.func94) (code := Try.f94.body.get rfl) rfl rfl rfl (by kernel_rfl) rfl (fun _ => rfl) hl w
theorem can94 : callable E 94 = true := aV Try.func94 rfl rfl
def c95 : C := (.seq (.ops [kO 2 (.box 136 (kT 0)),
 kO 3 (.mov (kC 0))])
 (.seq (.ops [kO 4 (.bK 3 (kT 1)),
 kO 5 (.bN 0 (kT 2)),
 kO 6 (.aQ (kT 5)),
 kO 7 (.bN 1 (kT 2)),
 kO 8 (.aQ (kT 7)),
 kO 9 (.call 62 [.tmp 4,.tmp 6,.tmp 8]),
 kO 3 (.mov (kT 9))])
 .ret))
theorem enter95 (hl : xs.length ≤ 10)(w : wq E 10 none c95 (bM xs) h [] (bU E [.tmp 3] Q)) : aJ E 95 xs h Q :=
  aJ.bV (fn := Try.f95) (bY Try.func95) (code := Try.f95.body.get rfl) rfl rfl rfl (by kernel_rfl) rfl (fun _ => rfl) hl w
theorem can95 : callable E 95 = true := aV Try.func95 rfl rfl
def c96 : C := (.seq (.ops [kO 4 (.box 136 (kT 0)),
 kO 6 (.alloc 136 [kZ,kZ])])
 (.seq (.ops [kO 8 (.aQ (kT 2)),
 kO 9 (.mov (kT 1)),
 kO 10 (kA .mul (kT 8) (kT 9)),
 kO 11 (.bN 1 (kT 4)),
 kO 12 (.aQ (kT 11)),
 kO 13 (kA .add (kT 10) (kT 12)),
 kO 7 (.mov (kT 13))])
 (.seq (.ops [kO 14 (.bN 2 (kT 3)),
 kO 15 (.aQ (kT 14)),
 kO 16 (.bN 0 (kT 4)),
 kO 17 (.aQ (kT 16)),
 kO 18 (.cZ 1 (kT 15) (kT 17)),
 kO 19 (.aQ (kT 18)),
 kO 20 (.mov (kT 7)),
 kO 21 (.bN 0 (kT 3)),
 kO 22 (.aQ (kT 21)),
 kO 23 (kA .rem (kT 20) (kT 22)),
 kO 24 (.cZ 1 (kT 19) (kT 23)),
 kO 25 (.aQ (kT 24)),
 kO 26 (.mov (kT 7)),
 kO 27 (.bN 0 (kT 3)),
 kO 28 (.aQ (kT 27)),
 kO 29 (kA .quo (kT 26) (kT 28)),
 kO 30 (.iX [kZ,kZ] [(0,1,(kT 25)),(1,1,(kT 29))]),
 ⟨none,.store 2 (kT 6) (kT 30),none⟩])
 .ret)))
theorem enter96 (hl : xs.length ≤ 31)(w : wq E 31 none c96 (bM xs) h [] (bU E [.cell 6 136] Q)) : aJ E 96 xs h Q :=
  aJ.bV (fn := Try.f96) (bY Try.func96) (code := Try.f96.body.get rfl) rfl rfl rfl (by kernel_rfl) rfl (fun _ => rfl) hl w
theorem can96 : callable E 96 = true := aV Try.func96 rfl rfl
def c97 : C := (.seq (.ops [kO 5 (.box 136 (kT 1)),
 kO 8 (.alloc 25 [kZ,kN,kN])])
 (.seq (.ops [kO 18 (.mov (kT 0)),
 kO 19 (.iX [kZ,kN,kN] [(0,1,(kT 18))]),
 kO 9 (.alloc 25 [kZ,kN,kN]),
 ⟨none,.store 3 (kT 9) (kT 19),none⟩])
 (.seq (.ops [kO 20 (.iC),
 kO 21 (.bK 2 (kT 5)),
 ⟨none,.raw (.insert 153 (kT 20) (kT 21) (kC 0)) 0,none⟩,
 kO 22 (.mov (kT 20)),
 kO 10 (.mov (kT 22))])
 (.seq (.ops [kO 23 (.bK 2 (kT 5)),
 kO 24 (.fP 136 1 [kZ,kZ] [(0,2,(kT 23))]),
 kO 11 (.mov (kT 24))])
 (.seq (.seq (.ops [kO 12 (.mov (kC 0))])
 (.block 0 (.loop (.seq (.seq (.ops [kO 25 (.mov (kT 12)),
 kO 26 (.mov (kT 11)),
 kO 27 (.dX (kT 26)),
 kO 28 (kA .lss (kT 25) (kT 27))])
 (.cond (kT 28) .skip
 (.exit 0)))
 (.seq (.block 1 (.seq (.draw [kO 31 (.bN 1 (kT 9)),
 kO 32 (.aQ (kT 31)),
 kO 33 (.mov (kT 2)),
 kO 34 (.mov (kT 11)),
 kO 35 (.mov (kT 12)),
 kO 36 (.cZ 2 (kT 34) (kT 35)),
 kO 37 (.bK 2 (kT 36)),
 kO 38 (.pK (kT 33) [.tmp 37]),
 kO 39 (.fP 3 1 [kZ] [(0,1,(kT 38))]),
 kO 40 (.append 3 1 8 (kT 32) (kT 39)),
 kO 41 (.bN 1 (kT 9)),
 ⟨none,.store 1 (kT 41) (kT 40),none⟩]
 [⟨kF,kE,fL0,fL15⟩,
 ⟨kF,kE,fL0,fL15⟩,
 ⟨kF,kF,fL0,fL0⟩,
 ⟨kF,kF,fL0,fL0⟩,
 ⟨kF,kF,fL0,fL0⟩,
 ⟨kF,kF,fL0,fL0⟩,
 ⟨kF,kF,fL0,fL0⟩,
 ⟨kE,kF,fL0,fL29⟩,
 ⟨kE,kF,fL29,fL15⟩,
 ⟨kE,kF,fL15,fL16⟩,
 ⟨kF,kF,fL16,fL16⟩,
 ⟨kE,kF,fL16,fL48⟩])
 (.seq (.ops [kO 42 (.mov (kT 0)),
 kO 43 (.make 3 [kZ] 8 (kT 42) (kT 42)),
 kO 13 (.mov (kT 43))])
 (.seq (.seq (.ops [kO 44 (.mov (kT 13)),
 kO 45 (.dX (kT 44)),
 kO 46 (.mov (kC 0))])
 (.block 2 (.loop (.seq (.ops [kO 47 (kA .lss (kT 46) (kT 45))])
 (.seq (.cond (kT 47) .skip
 (.exit 2))
 (.seq (.block 3 (.seq (.ops [kO 48 (.mov (kT 46)),
 kO 14 (.mov (kT 48))])
 (.seq (.ops [kO 49 (.mov (kT 3)),
 kO 50 (.mov (kT 11)),
 kO 51 (.mov (kT 12)),
 kO 52 (.cZ 2 (kT 50) (kT 51)),
 kO 53 (.bK 2 (kT 52)),
 kO 54 (.mov (kT 14)),
 kO 55 (.pK (kT 49) [.tmp 53,.tmp 54]),
 kO 15 (.alloc 136 [kZ,kZ]),
 ⟨none,.store 2 (kT 15) (kT 55),none⟩])
 (.seq (.seq (.ops [kO 57 (.mov (kT 10)),
 kO 58 (.bK 2 (kT 15)),
 kO 59 (.raw (.lookup 153 (kT 57) (kT 58) kE) 115),
 kO 56 (.mov (kT 59)),
 kO 60 (.ext (kT 56) 0),
 kO 61 (.ext (kT 56) 1),
 kO 16 (.mov (kT 60)),
 kO 17 (.mov (kT 61))])
 (.seq (.ops [kO 62 (.mov (kT 17)),
 kO 63 (.not (kT 62))])
 (.cond (kT 63) (.seq (.ops [kO 64 (.mov (kT 10)),
 kO 65 (.bK 2 (kT 15)),
 kO 66 (.mov (kT 11)),
 kO 67 (.dX (kT 66)),
 ⟨none,.raw (.mapUpdate 153 (kT 64) (kT 65) (kT 67)) 0,none⟩])
 (.ops [kO 68 (.mov (kT 11)),
 kO 69 (.bK 2 (kT 15)),
 kO 70 (.fP 136 1 [kZ,kZ] [(0,2,(kT 69))]),
 kO 71 (.append 136 2 16 (kT 68) (kT 70)),
 kO 11 (.mov (kT 71))]))
 .skip)))
 (.ops [kO 72 (.mov (kT 13)),
 kO 73 (.mov (kT 14)),
 kO 74 (.mov (kT 10)),
 kO 75 (.bK 2 (kT 15)),
 kO 76 (.raw (.lookup 153 (kT 74) (kT 75) kF) 3),
 kO 77 (.cZ 1 (kT 72) (kT 73)),
 ⟨none,.store 1 (kT 77) (kT 76),none⟩])))))
 (.ops [kO 78 (kA .add (kT 46) (kC 1)),
 kO 46 (.mov (kT 78))])))))))
 (.ops [kO 79 (.bN 2 (kT 9)),
 kO 80 (.aQ (kT 79)),
 kO 81 (.mov (kT 13)),
 kO 82 (.fP 22 1 [kN] [(0,1,(kT 81))]),
 kO 83 (.append 22 1 24 (kT 80) (kT 82)),
 kO 84 (.bN 2 (kT 9)),
 ⟨none,.store 1 (kT 84) (kT 83),none⟩])))))
 (.ops [kO 29 (.mov (kT 12)),
 kO 30 (kA .add (kT 29) (kC 1)),
 kO 12 (.mov (kT 30))]))))))
 (.seq (.ops [kO 85 (.bK 3 (kT 9)),
 ⟨none,.store 3 (kT 8) (kT 85),none⟩])
 .ret))))))
theorem enter97 (hl : xs.length ≤ 86)(w : wq E 86 none c97 (bM xs) h [] (bU E [.cell 8 25] Q)) : aJ E 97 xs h Q :=
  aJ.bV (fn := Try.f97) (bY Try.func97) (code := Try.f97.body.get rfl) rfl rfl rfl (by kernel_rfl) rfl (fun _ => rfl) hl w
theorem can97 : callable E 97 = true := aV Try.func97 rfl rfl
def c98 : C := (.seq (.ops [kO 3 (.box 25 (kT 0)),
 kO 6 (.mov (kC 0))])
 (.seq (.ops [kO 7 (.mov (.const (.int .i64 (-1))))])
 (.seq (.seq (.ops [kO 11 (.bN 2 (kT 3)),
 kO 12 (.aQ (kT 11)),
 kO 13 (.mov (kT 2)),
 kO 14 (.cZ 1 (kT 12) (kT 13)),
 kO 15 (.aQ (kT 14)),
 kO 16 (.dX (kT 15)),
 kO 17 (.mov (kC 0))])
 (.block 0 (.loop (.seq (.ops [kO 18 (kA .lss (kT 17) (kT 16))])
 (.seq (.cond (kT 18) .skip
 (.exit 0))
 (.seq (.block 1 (.seq (.ops [kO 19 (.mov (kT 17)),
 kO 20 (.cZ 1 (kT 15) (kT 17)),
 kO 21 (.aQ (kT 20)),
 kO 8 (.mov (kT 19)),
 kO 9 (.mov (kT 21))])
 (.seq (.seq (.ops [kO 22 (.mov (kT 1)),
 kO 23 (.mov (kT 9)),
 kO 24 (.cZ 1 (kT 22) (kT 23)),
 kO 25 (.aQ (kT 24)),
 kO 26 (kA .lss (kT 25) (kC 0))])
 (.cond (kT 26) (.exit 1)
 .skip))
 (.seq (.ops [kO 27 (.mov (kT 1)),
 kO 28 (.mov (kT 9)),
 kO 29 (.cZ 1 (kT 27) (kT 28)),
 kO 30 (.aQ (kT 29)),
 kO 31 (.bN 0 (kT 3)),
 kO 32 (.aQ (kT 31)),
 kO 33 (kA .mul (kT 30) (kT 32)),
 kO 34 (.mov (kT 8)),
 kO 35 (kA .add (kT 33) (kT 34)),
 kO 10 (.mov (kT 35))])
 (.seq (.ops [kO 36 (.mov (kT 7)),
 kO 37 (kA .lss (kT 36) (kC 0)),
 kO 38 (.mov (kT 37)),
 ⟨some 39,.mov (kT 10),(some (38,kF))⟩,
 ⟨some 40,.mov (kT 7),(some (38,kF))⟩,
 ⟨some 41,kA .lss (kT 39) (kT 40),(some (38,kF))⟩,
 kO 42 (.pick (kT 38) (.const (.bool kE)) (kT 41))])
 (.cond (kT 42) (.ops [kO 43 (.mov (kT 10)),
 kO 7 (.mov (kT 43))])
 .skip))))))
 (.ops [kO 44 (kA .add (kT 17) (kC 1)),
 kO 17 (.mov (kT 44))])))))))
 (.seq (.ops [kO 45 (.mov (kT 7)),
 kO 6 (.mov (kT 45))])
 .ret))))
theorem enter98 (hl : xs.length ≤ 46)(w : wq E 46 none c98 (bM xs) h [] (bU E [.tmp 6] Q)) : aJ E 98 xs h Q :=
  aJ.bV (fn := Try.f98) (bY Try.func98) (code := Try.f98.body.get rfl) rfl rfl rfl (by kernel_rfl) rfl (fun _ => rfl) hl w
theorem can98 : callable E 98 = true := aV Try.func98 rfl rfl
def c99 : C := (.seq (.ops [kO 2 (.mov (.const (.string ⟨⟨[]⟩⟩)))])
 (.seq (.ops [kO 3 (.mov (kT 0)),
 kO 4 (kA .rem (kT 3) (kC 256)),
 kO 5 (.Cn .u8 (kT 4)),
 kO 6 (.mov (kT 0)),
 kO 7 (kA .quo (kT 6) (kC 256)),
 kO 8 (.Cn .u8 (kT 7)),
 kO 9 (.fP 5 3 [.int .u8 0,.int .u8 0,.int .u8 0] [(0,1,(kT 5)),(1,1,(kT 8)),(2,1,(.const (.int .u8 44)))]),
 kO 10 (.raw (.convert 155 9 (kT 9)) 9),
 kO 2 (.mov (kT 10))])
 .ret))
theorem enter99 (hl : xs.length ≤ 11)(w : wq E 11 none c99 (bM xs) h [] (bU E [.tmp 2] Q)) : aJ E 99 xs h Q :=
  aJ.bV (fn := Try.f99) (bY Try.func99) (code := Try.f99.body.get rfl) rfl rfl rfl (by kernel_rfl) rfl (fun _ => rfl) hl w
theorem can99 : callable E 99 = true := aV Try.func99 rfl rfl
def c100 : C := (.seq (.ops [kO 2 (.box 147 (kT 0)),
 kO 3 (.mov (kC 0))])
 (.seq (.ops [kO 4 (.bN 0 (kT 1)),
 kO 5 (.aQ (kT 4)),
 kO 6 (.bN 1 (kT 2)),
 kO 7 (.aQ (kT 6)),
 kO 8 (.cZ 1 (kT 5) (kT 7)),
 kO 9 (.aQ (kT 8)),
 kO 3 (.mov (kT 9))])
 .ret))
theorem enter100 (hl : xs.length ≤ 10)(w : wq E 10 none c100 (bM xs) h [] (bU E [.tmp 3] Q)) : aJ E 100 xs h Q :=
  aJ.bV (fn := Try.f100) (bY Try.func100) (code := Try.f100.body.get rfl) rfl rfl rfl (by kernel_rfl) rfl (fun _ => rfl) hl w
theorem can100 : callable E 100 = true := aV Try.func100 rfl rfl
def c101 : C := (.seq (.ops [kO 4 (.box 147 (kT 0)),
 kO 6 (.alloc 147 [kZ,kZ])])
 (.seq (.draw [kO 7 (.bK 2 (kT 2)),
 kO 8 (.bN 0 (kT 4)),
 kO 9 (.aQ (kT 8)),
 kO 10 (.aQ (kT 3)),
 kO 11 (kA .mul (kT 9) (kT 10)),
 kO 12 (.call 102 [.tmp 7,.tmp 11]),
 kO 13 (.bK 2 (kT 2)),
 kO 14 (.bN 1 (kT 4)),
 kO 15 (.aQ (kT 14)),
 kO 16 (.bN 0 (kT 4)),
 kO 17 (.aQ (kT 16)),
 kO 18 (.mov (kT 1)),
 kO 19 (kA .mul (kT 17) (kT 18)),
 kO 20 (kA .add (kT 15) (kT 19)),
 kO 21 (.call 102 [.tmp 13,.tmp 20]),
 kO 22 (.iX [kZ,kZ] [(0,1,(kT 12)),(1,1,(kT 21))]),
 ⟨none,.store 2 (kT 6) (kT 22),none⟩]
 [⟨kF,kF,fL11,fL11⟩,
 ⟨kF,kF,fL11,fL11⟩,
 ⟨kF,kF,fL11,fL11⟩,
 ⟨kF,kF,fL11,fL11⟩,
 ⟨kF,kF,fL11,fL11⟩,
 ⟨kE,kF,fL11,fL23⟩,
 ⟨kF,kE,fL11,fL23⟩,
 ⟨kF,kE,fL11,fL23⟩,
 ⟨kF,kE,fL11,fL23⟩,
 ⟨kF,kE,fL11,fL23⟩,
 ⟨kF,kE,fL11,fL23⟩,
 ⟨kF,kE,fL11,fL23⟩,
 ⟨kF,kE,fL11,fL23⟩,
 ⟨kF,kE,fL11,fL23⟩,
 ⟨kE,kF,fL23,fL49⟩,
 ⟨kF,kF,fL49,fL49⟩,
 ⟨kE,kF,fL49,[kF,kF,kF,kF,kF,kE,kF,kF,kF,kF,kF,kF,kF,kF,kE,kF,kE]⟩])
 .ret))
theorem enter101 (hl : xs.length ≤ 23)(w : wq E 23 none c101 (bM xs) h [] (bU E [.cell 6 147] Q)) : aJ E 101 xs h Q :=
  aJ.bV (fn := Try.f101) (bY Try.func101) (code := Try.f101.body.get rfl) rfl rfl rfl (by kernel_rfl) rfl (fun _ => rfl) hl w
theorem can101 : callable E 101 = true := aV Try.func101 rfl rfl
def c102 : C := (.seq (.ops [kO 2 (.box 121 (kT 0)),
 kO 4 (.mov (kC 0))])
 (.seq (.seq (.ops [kO 5 (.mov (kT 1)),
 kO 6 (.bN 1 (kT 2)),
 kO 7 (.aQ (kT 6)),
 kO 8 (kA .lss (kT 5) (kT 7))])
 (.cond (kT 8) (.seq (.ops [kO 9 (.mov (kT 1)),
 kO 4 (.mov (kT 9))])
 .ret)
 .skip))
 (.seq (.ops [kO 10 (.bN 1 (kT 2)),
 kO 11 (.aQ (kT 10)),
 kO 12 (.mov (kT 1)),
 kO 13 (.bN 1 (kT 2)),
 kO 14 (.aQ (kT 13)),
 kO 15 (kA .sub (kT 12) (kT 14)),
 kO 16 (.bN 0 (kT 2)),
 kO 17 (.aQ (kT 16)),
 kO 18 (.dX (kT 17)),
 kO 19 (.bN 1 (kT 2)),
 kO 20 (.aQ (kT 19)),
 kO 21 (kA .sub (kT 18) (kT 20)),
 kO 22 (kA .rem (kT 15) (kT 21)),
 kO 23 (kA .add (kT 11) (kT 22)),
 kO 4 (.mov (kT 23))])
 .ret)))
theorem enter102 (hl : xs.length ≤ 24)(w : wq E 24 none c102 (bM xs) h [] (bU E [.tmp 4] Q)) : aJ E 102 xs h Q :=
  aJ.bV (fn := Try.f102) (bY Try.func102) (code := Try.f102.body.get rfl) rfl rfl rfl (by kernel_rfl) rfl (fun _ => rfl) hl w
theorem can102 : callable E 102 = true := aV Try.func102 rfl rfl
def c103 : C := (.seq (.ops [kO 5 (.box 147 (kT 1)),
 kO 8 (.alloc 25 [kZ,kN,kN])])
 (.seq (.ops [kO 18 (.mov (kT 0)),
 kO 19 (.iX [kZ,kN,kN] [(0,1,(kT 18))]),
 kO 9 (.alloc 25 [kZ,kN,kN]),
 ⟨none,.store 3 (kT 9) (kT 19),none⟩])
 (.seq (.ops [kO 20 (.iC),
 kO 21 (.bK 2 (kT 5)),
 ⟨none,.raw (.insert 156 (kT 20) (kT 21) (kC 0)) 0,none⟩,
 kO 22 (.mov (kT 20)),
 kO 10 (.mov (kT 22))])
 (.seq (.ops [kO 23 (.bK 2 (kT 5)),
 kO 24 (.fP 147 1 [kZ,kZ] [(0,2,(kT 23))]),
 kO 11 (.mov (kT 24))])
 (.seq (.seq (.ops [kO 12 (.mov (kC 0))])
 (.block 0 (.loop (.seq (.seq (.ops [kO 25 (.mov (kT 12)),
 kO 26 (.mov (kT 11)),
 kO 27 (.dX (kT 26)),
 kO 28 (kA .lss (kT 25) (kT 27))])
 (.cond (kT 28) .skip
 (.exit 0)))
 (.seq (.block 1 (.seq (.draw [kO 31 (.bN 1 (kT 9)),
 kO 32 (.aQ (kT 31)),
 kO 33 (.mov (kT 2)),
 kO 34 (.mov (kT 11)),
 kO 35 (.mov (kT 12)),
 kO 36 (.cZ 2 (kT 34) (kT 35)),
 kO 37 (.bK 2 (kT 36)),
 kO 38 (.pK (kT 33) [.tmp 37]),
 kO 39 (.fP 3 1 [kZ] [(0,1,(kT 38))]),
 kO 40 (.append 3 1 8 (kT 32) (kT 39)),
 kO 41 (.bN 1 (kT 9)),
 ⟨none,.store 1 (kT 41) (kT 40),none⟩]
 [⟨kF,kE,fL0,fL15⟩,
 ⟨kF,kE,fL0,fL15⟩,
 ⟨kF,kF,fL0,fL0⟩,
 ⟨kF,kF,fL0,fL0⟩,
 ⟨kF,kF,fL0,fL0⟩,
 ⟨kF,kF,fL0,fL0⟩,
 ⟨kF,kF,fL0,fL0⟩,
 ⟨kE,kF,fL0,fL29⟩,
 ⟨kE,kF,fL29,fL15⟩,
 ⟨kE,kF,fL15,fL16⟩,
 ⟨kF,kF,fL16,fL16⟩,
 ⟨kE,kF,fL16,fL48⟩])
 (.seq (.ops [kO 42 (.mov (kT 0)),
 kO 43 (.make 3 [kZ] 8 (kT 42) (kT 42)),
 kO 13 (.mov (kT 43))])
 (.seq (.seq (.ops [kO 44 (.mov (kT 13)),
 kO 45 (.dX (kT 44)),
 kO 46 (.mov (kC 0))])
 (.block 2 (.loop (.seq (.ops [kO 47 (kA .lss (kT 46) (kT 45))])
 (.seq (.cond (kT 47) .skip
 (.exit 2))
 (.seq (.block 3 (.seq (.ops [kO 48 (.mov (kT 46)),
 kO 14 (.mov (kT 48))])
 (.seq (.ops [kO 49 (.mov (kT 3)),
 kO 50 (.mov (kT 11)),
 kO 51 (.mov (kT 12)),
 kO 52 (.cZ 2 (kT 50) (kT 51)),
 kO 53 (.bK 2 (kT 52)),
 kO 54 (.mov (kT 14)),
 kO 55 (.pK (kT 49) [.tmp 53,.tmp 54]),
 kO 15 (.alloc 147 [kZ,kZ]),
 ⟨none,.store 2 (kT 15) (kT 55),none⟩])
 (.seq (.seq (.ops [kO 57 (.mov (kT 10)),
 kO 58 (.bK 2 (kT 15)),
 kO 59 (.raw (.lookup 156 (kT 57) (kT 58) kE) 115),
 kO 56 (.mov (kT 59)),
 kO 60 (.ext (kT 56) 0),
 kO 61 (.ext (kT 56) 1),
 kO 16 (.mov (kT 60)),
 kO 17 (.mov (kT 61))])
 (.seq (.ops [kO 62 (.mov (kT 17)),
 kO 63 (.not (kT 62))])
 (.cond (kT 63) (.seq (.ops [kO 64 (.mov (kT 10)),
 kO 65 (.bK 2 (kT 15)),
 kO 66 (.mov (kT 11)),
 kO 67 (.dX (kT 66)),
 ⟨none,.raw (.mapUpdate 156 (kT 64) (kT 65) (kT 67)) 0,none⟩])
 (.ops [kO 68 (.mov (kT 11)),
 kO 69 (.bK 2 (kT 15)),
 kO 70 (.fP 147 1 [kZ,kZ] [(0,2,(kT 69))]),
 kO 71 (.append 147 2 16 (kT 68) (kT 70)),
 kO 11 (.mov (kT 71))]))
 .skip)))
 (.ops [kO 72 (.mov (kT 13)),
 kO 73 (.mov (kT 14)),
 kO 74 (.mov (kT 10)),
 kO 75 (.bK 2 (kT 15)),
 kO 76 (.raw (.lookup 156 (kT 74) (kT 75) kF) 3),
 kO 77 (.cZ 1 (kT 72) (kT 73)),
 ⟨none,.store 1 (kT 77) (kT 76),none⟩])))))
 (.ops [kO 78 (kA .add (kT 46) (kC 1)),
 kO 46 (.mov (kT 78))])))))))
 (.ops [kO 79 (.bN 2 (kT 9)),
 kO 80 (.aQ (kT 79)),
 kO 81 (.mov (kT 13)),
 kO 82 (.fP 22 1 [kN] [(0,1,(kT 81))]),
 kO 83 (.append 22 1 24 (kT 80) (kT 82)),
 kO 84 (.bN 2 (kT 9)),
 ⟨none,.store 1 (kT 84) (kT 83),none⟩])))))
 (.ops [kO 29 (.mov (kT 12)),
 kO 30 (kA .add (kT 29) (kC 1)),
 kO 12 (.mov (kT 30))]))))))
 (.seq (.ops [kO 85 (.bK 3 (kT 9)),
 ⟨none,.store 3 (kT 8) (kT 85),none⟩])
 .ret))))))
theorem enter103 (hl : xs.length ≤ 86)(w : wq E 86 none c103 (bM xs) h [] (bU E [.cell 8 25] Q)) : aJ E 103 xs h Q :=
  aJ.bV (fn := Try.f103) (bY Try.func103) (code := Try.f103.body.get rfl) rfl rfl rfl (by kernel_rfl) rfl (fun _ => rfl) hl w
theorem can103 : callable E 103 = true := aV Try.func103 rfl rfl
def c104 : C := (.block 0 (.loop (.seq (.seq (.ops [kO 4 (.aQ (kT 1)),
 kO 5 (kA .gtr (kT 4) (kC 0))])
 (.cond (kT 5) .skip
 (.exit 0)))
 (.seq (.block 1 (.seq (.ops [kO 9 (.mov (kT 0)),
 kO 10 (.aQ (kT 1)),
 kO 11 (.aQ (kT 2)),
 kO 12 (kA .rem (kT 10) (kT 11)),
 kO 13 (.pK (kT 9) [.tmp 12]),
 kO 14 (.not (kT 13))])
 (.cond (kT 14) .ret
 .skip)))
 (.ops [kO 6 (.aQ (kT 1)),
 kO 7 (.aQ (kT 2)),
 kO 8 (kA .quo (kT 6) (kT 7)),
 ⟨none,.store 1 (kT 1) (kT 8),none⟩])))))
theorem enter104 (hl : xs.length ≤ 15)(w : wq E 15 none c104 (bM xs) h [] (bU E [] Q)) : aJ E 104 xs h Q :=
  aJ.bV (fn := Try.f104) (bY Try.func104) (code := Try.f104.body.get rfl) rfl rfl rfl (by kernel_rfl) rfl (fun _ => rfl) hl w
theorem can104 : callable E 104 = true := aV Try.func104 rfl rfl
def c105 : C := (.seq (.ops [kO 2 (.box 25 (kT 0)),
 kO 4 (.mov (.const kN)),
 kO 5 (.mov (kC 0))])
 (.seq (.ops [kO 12 (.mov (kT 4)),
 kO 13 (.mov (kT 1)),
 kO 14 (.append 3 1 8 (kT 12) (kT 13)),
 kO 4 (.mov (kT 14))])
 (.seq (.seq (.ops [kO 15 (.bN 0 (kT 2)),
 kO 16 (.aQ (kT 15)),
 kO 17 (.mov (kC 0))])
 (.block 0 (.loop (.seq (.ops [kO 18 (kA .lss (kT 17) (kT 16))])
 (.seq (.cond (kT 18) .skip
 (.exit 0))
 (.seq (.block 1 (.seq (.ops [kO 19 (.mov (kT 17)),
 kO 6 (.mov (kT 19))])
 (.seq (.ops [kO 20 (.iC),
 kO 7 (.mov (kT 20))])
 (.seq (.seq (.ops [kO 21 (.mov (kT 4)),
 kO 22 (.dX (kT 21)),
 kO 23 (.mov (kC 0))])
 (.block 2 (.loop (.seq (.ops [kO 24 (kA .lss (kT 23) (kT 22))])
 (.seq (.cond (kT 24) .skip
 (.exit 2))
 (.seq (.block 3 (.seq (.ops [kO 25 (.mov (kT 23)),
 kO 8 (.mov (kT 25))])
 (.seq (.draw [kO 26 (.mov (kT 4)),
 kO 27 (.mov (kT 8)),
 kO 28 (.cZ 1 (kT 26) (kT 27)),
 kO 29 (.aQ (kT 28)),
 kO 30 (.mov (kT 1)),
 kO 31 (.bN 2 (kT 2)),
 kO 32 (.aQ (kT 31)),
 kO 33 (.mov (kT 8)),
 kO 34 (.cZ 1 (kT 32) (kT 33)),
 kO 35 (.aQ (kT 34)),
 kO 36 (.mov (kT 6)),
 kO 37 (.cZ 1 (kT 35) (kT 36)),
 kO 38 (.aQ (kT 37)),
 kO 39 (.cZ 1 (kT 30) (kT 38)),
 kO 40 (.aQ (kT 39)),
 kO 41 (.iX [kZ,kZ] [(0,1,(kT 29)),(1,1,(kT 40))]),
 kO 9 (.alloc 106 [kZ,kZ]),
 ⟨none,.store 2 (kT 9) (kT 41),none⟩]
 [⟨kF,kE,fL14,fL13⟩,
 ⟨kF,kE,fL14,fL13⟩,
 ⟨kF,kE,fL14,fL13⟩,
 ⟨kF,kE,fL14,fL13⟩,
 ⟨kF,kE,fL14,fL13⟩,
 ⟨kF,kE,fL14,fL13⟩,
 ⟨kF,kE,fL14,fL13⟩,
 ⟨kF,kE,fL14,fL13⟩,
 ⟨kF,kE,fL14,fL13⟩,
 ⟨kF,kE,fL14,fL13⟩,
 ⟨kF,kE,fL14,fL13⟩,
 ⟨kF,kE,fL14,fL13⟩,
 ⟨kF,kE,fL14,fL13⟩,
 ⟨kF,kE,fL14,fL13⟩,
 ⟨kF,kE,fL14,fL13⟩,
 ⟨kF,kE,fL14,fL13⟩,
 ⟨kE,kF,fL14,fL13⟩,
 ⟨kE,kF,fL13,[kF,kF,kF,kF,kF,kF,kF,kF,kF,kF,kF,kF,kF,kF,kF,kF,kE,kE]⟩])
 (.seq (.seq (.ops [kO 43 (.mov (kT 7)),
 kO 44 (.bK 2 (kT 9)),
 kO 45 (.raw (.lookup 140 (kT 43) (kT 44) kE) 115),
 kO 42 (.mov (kT 45)),
 kO 46 (.ext (kT 42) 0),
 kO 47 (.ext (kT 42) 1),
 kO 10 (.mov (kT 46)),
 kO 11 (.mov (kT 47))])
 (.seq (.ops [kO 48 (.mov (kT 11)),
 kO 49 (.not (kT 48))])
 (.cond (kT 49) (.ops [kO 50 (.mov (kT 7)),
 kO 51 (.bK 2 (kT 9)),
 kO 52 (.mov (kT 7)),
 kO 53 (.raw (.call ⟨.builtin .len,⟨[.tmp 52]⟩,⟨[140]⟩⟩) 3),
 ⟨none,.raw (.mapUpdate 140 (kT 50) (kT 51) (kT 53)) 0,none⟩])
 .skip)))
 (.ops [kO 54 (.mov (kT 4)),
 kO 55 (.mov (kT 8)),
 kO 56 (.mov (kT 7)),
 kO 57 (.bK 2 (kT 9)),
 kO 58 (.raw (.lookup 140 (kT 56) (kT 57) kF) 3),
 kO 59 (.cZ 1 (kT 54) (kT 55)),
 ⟨none,.store 1 (kT 59) (kT 58),none⟩])))))
 (.ops [kO 60 (kA .add (kT 23) (kC 1)),
 kO 23 (.mov (kT 60))])))))))
 (.ops [kO 61 (.mov (kT 7)),
 kO 62 (.raw (.call ⟨.builtin .len,⟨[.tmp 61]⟩,⟨[140]⟩⟩) 3),
 kO 5 (.mov (kT 62))])))))
 (.ops [kO 63 (kA .add (kT 17) (kC 1)),
 kO 17 (.mov (kT 63))])))))))
 (.seq (.ops [kO 64 (.mov (kT 4)),
 kO 65 (.mov (kT 5)),
 kO 4 (.mov (kT 64)),
 kO 5 (.mov (kT 65))])
 .ret))))
theorem enter105 (hl : xs.length ≤ 66)(w : wq E 66 none c105 (bM xs) h [] (bU E [.tmp 4,.tmp 5] Q)) : aJ E 105 xs h Q :=
  aJ.bV (fn := Try.f105) (bY Try.func105) (code := Try.f105.body.get rfl) rfl rfl rfl (by kernel_rfl) rfl (fun _ => rfl) hl w
theorem can105 : callable E 105 = true := aV Try.func105 rfl rfl
end
end Go.Proofs.Ytedneplaibmppaa
