/- The code of the functions that PSCB comes to. -/
import Derived.Test.YtljbibjnidccbabTypesC
set_option maxRecDepth 100000
set_option linter.unusedSectionVars false
set_option linter.unusedVariables false
namespace Go.Proofs.Ytljbibjnidccbab
open Go.Rx Go.RowKit
noncomputable section
abbrev kF:=false
abbrev kE:=true
abbrev fL0:List Bool:=[kF,kF,kF,kF,kF,kF,kF,kF,kF,kF,kF,kF,kF,kF,kF,kF,kF,kF,kF,kF,kF,kF]
abbrev fL1:List Bool:=[kF,kF,kF,kF,kF,kF,kF,kF,kF,kF,kF,kF,kF,kF,kF,kF]
abbrev fL2:List Bool:=[kF,kF,kF,kF,kF,kF,kF,kF,kF,kF,kF,kF]
abbrev fL3:List Bool:=[kF,kF,kF,kF,kF,kF,kF,kF,kF,kF,kE,kF,kF,kF,kF,kF,kF,kF,kF,kF,kF,kF]
abbrev fL4:List Bool:=[kF,kF,kF,kF,kF,kF,kF,kF,kF,kF]
abbrev fL5:List Bool:=[kF,kE,kF,kF,kF,kF,kF,kF,kF,kF]
abbrev fL6:List Bool:=[kF,kF,kF,kF,kF,kF,kF,kF,kF,kF,kF,kE,kF,kF,kF,kF]
abbrev fL7:List Bool:=[kF,kF,kE,kF,kE,kF,kF,kE,kF,kE,kF,kF,kF]
abbrev fL8:List Bool:=[kF,kF,kF,kF,kF,kF,kF,kF,kF,kF,kF,kF,kF]
abbrev fL9:List Bool:=[kF,kF,kF,kF,kF,kF,kF,kF,kF,kF,kE,kF,kF,kF,kF,kF,kF,kF,kF,kE,kF,kF]
abbrev fL10:List Bool:=[kF,kF,kF,kF,kF,kE,kF,kF,kF,kE,kF,kF]
abbrev fL11:List Bool:=[kF,kF,kF,kF,kF,kE,kF,kF,kF,kF,kF,kF]
abbrev fL12:List Bool:=[kF,kF,kE,kF,kE,kF,kF,kF,kF,kF,kF,kF,kF]
abbrev fL13:List Bool:=[kF,kF,kE,kF,kF,kF,kF,kF,kF,kF,kF,kF,kF]
abbrev fL14:List Bool:=[kF,kF,kE,kF,kE,kF,kF,kE,kF,kF,kF,kF,kF]
abbrev kO (d:Nat) (t:TOp):G:=⟨some d,t,none⟩
abbrev kT:=Operand.tmp
abbrev kC (n:Int):Operand:=.const (.int .i64 n)
abbrev kN:Value:=.slice none 0 0
abbrev kZ:Value:=.int .i64 0
abbrev kA:=TOp.ar .i64
variable [Unknowns] {xs : List Value} {h : Hp} {Q : Value → Hp → Prop}
def c3 : C := (.seq (.ops [kO 2 (.box 25 (kT 0)),
 kO 4 (.mov (.const (.bool kF)))])
 (.seq (.ops [kO 39 (.loadN 3 (kT 2)),
 kO 40 (.call 4 [.tmp 39]),
 kO 5 (.alloc 27 [kZ,kN,kN]),
 ⟨none,.store 3 (kT 5) (kT 40),none⟩])
 (.seq (.ops [kO 41 (.loadN 3 (kT 5)),
 kO 42 (.call 5 [.tmp 41]),
 kO 6 (.alloc 25 [kZ,kN,kN]),
 ⟨none,.store 3 (kT 6) (kT 42),none⟩])
 (.seq (.ops [kO 43 (.mov (kT 1)),
 kO 44 (.call 6 [.tmp 43,(kC 11)]),
 kO 7 (.mov (kT 44))])
 (.seq (.ops [kO 8 (.mov (kC 0))])
 (.seq (.seq (.ops [kO 45 (.loadN 3 (kT 5)),
 kO 46 (.call 7 [.tmp 45]),
 kO 47 (.not (kT 46))])
 (.cond (kT 47) (.ops [kO 8 (.mov (kC 30))])
 .skip))
 (.seq (.seq (.ops [kO 48 (.loadN 3 (kT 6)),
 kO 49 (.call 8 [.tmp 48]),
 kO 50 (.mov (kT 8)),
 kO 51 (kA .neq (kT 49) (kT 50))])
 (.cond (kT 51) (.seq (.ops [kO 4 (.mov (.const (.bool kF)))])
 .ret)
 .skip))
 (.seq (.seq (.ops [kO 52 (.mov (kT 8)),
 kO 53 (kA .neq (kT 52) (kC 0))])
 (.cond (kT 53) (.seq (.ops [kO 55 (.loadN 3 (kT 6)),
 kO 56 (.call 9 [.tmp 55]),
 kO 54 (.mov (kT 56)),
 kO 57 (.ext (kT 54) 0),
 kO 58 (.ext (kT 54) 1),
 kO 9 (.mov (kT 57)),
 kO 10 (.mov (kT 58))])
 (.seq (.ops [kO 60 (.loadN 3 (kT 6)),
 kO 61 (.call 10 [.tmp 60]),
 kO 59 (.mov (kT 61)),
 kO 62 (.ext (kT 59) 0),
 kO 63 (.ext (kT 59) 1),
 kO 11 (.mov (kT 62)),
 kO 12 (.mov (kT 63))])
 (.seq (.ops [kO 64 (.mov (kT 10)),
 kO 65 (.mov (kT 8)),
 kO 66 (kA .neq (kT 64) (kT 65)),
 kO 67 (.mov (kT 66)),
 ⟨some 68,.mov (kT 12),(some (67,kF))⟩,
 ⟨some 69,.mov (kT 8),(some (67,kF))⟩,
 ⟨some 70,kA .neq (kT 68) (kT 69),(some (67,kF))⟩,
 kO 71 (.pick (kT 67) (.const (.bool kE)) (kT 70)),
 kO 72 (.mov (kT 71)),
 ⟨some 73,.mov (kT 9),(some (72,kF))⟩,
 ⟨some 74,.mov (kT 11),(some (72,kF))⟩,
 ⟨some 75,kA .add (kT 73) (kT 74),(some (72,kF))⟩,
 ⟨some 76,kA .neq (kT 75) (kC 0),(some (72,kF))⟩,
 kO 77 (.pick (kT 72) (.const (.bool kE)) (kT 76))])
 (.cond (kT 77) (.seq (.ops [kO 4 (.mov (.const (.bool kF)))])
 .ret)
 .skip))))
 (.ops [kO 8 (.mov (kC 1))])))
 (.seq (.ops [kO 78 (.loadN 3 (kT 5)),
 kO 79 (.call 7 [.tmp 78]),
 kO 80 (.not (kT 79)),
 kO 13 (.mov (kT 80))])
 (.seq (.seq (.ops [kO 82 (.loadN 3 (kT 6)),
 kO 83 (.mov (kT 7)),
 kO 84 (.call 11 [.tmp 82,.tmp 83]),
 kO 81 (.mov (kT 84)),
 kO 85 (.ext (kT 81) 0),
 kO 86 (.ext (kT 81) 1),
 kO 14 (.mov (kT 85)),
 kO 15 (.mov (kT 86))])
 (.seq (.ops [kO 87 (.mov (kT 13)),
 kO 88 (.mov (kT 87)),
 ⟨some 89,.mov (kT 7),(some (88,kF))⟩,
 ⟨some 90,.fldA 0 (kT 5),(some (88,kF))⟩,
 ⟨some 91,.load1 (kT 90),(some (88,kF))⟩,
 ⟨some 92,.call 12 [.tmp 89,.tmp 91],(some (88,kF))⟩,
 ⟨some 93,.not (kT 92),(some (88,kF))⟩,
 kO 94 (.pick (kT 88) (.const (.bool kE)) (kT 93)),
 kO 95 (.mov (kT 15)),
 kO 96 (kA .neq (kT 95) (kC 0)),
 kO 97 (.raw (.binOp .neq 4 (kT 94) (kT 96) 4) 4),
 kO 98 (.mov (kT 97)),
 ⟨some 99,.mov (kT 15),(some (98,kF))⟩,
 ⟨some 100,kA .neq (kT 99) (kC 0),(some (98,kF))⟩,
 ⟨some 101,.mov (kT 100),(some (98,kF))⟩,
 ⟨some 102,.mov (kT 15),(some (101,kE))⟩,
 ⟨some 103,.mov (kT 8),(some (101,kE))⟩,
 ⟨some 104,kA .neq (kT 102) (kT 103),(some (101,kE))⟩,
 ⟨some 105,.mov (kT 104),(some (101,kE))⟩,
 ⟨some 106,.mov (kT 14),(some (105,kF))⟩,
 ⟨some 107,.lenS (kT 106),(some (105,kF))⟩,
 ⟨some 108,kA .neq (kT 107) (kC 0),(some (105,kF))⟩,
 ⟨some 109,.pick (kT 105) (.const (.bool kE)) (kT 108),(some (101,kE))⟩,
 ⟨some 110,.pick (kT 101) (kT 109) (.const (.bool kF)),(some (98,kF))⟩,
 kO 111 (.pick (kT 98) (.const (.bool kE)) (kT 110))])
 (.cond (kT 111) (.seq (.ops [kO 4 (.mov (.const (.bool kF)))])
 .ret)
 .skip)))
 (.seq (.seq (.ops [kO 113 (.loadN 3 (kT 6)),
 kO 114 (.mov (kT 7)),
 kO 115 (.call 13 [.tmp 113,.tmp 114]),
 kO 112 (.mov (kT 115)),
 kO 116 (.ext (kT 112) 0),
 kO 117 (.ext (kT 112) 1),
 kO 16 (.mov (kT 116)),
 kO 17 (.mov (kT 117))])
 (.seq (.ops [kO 118 (.mov (kT 13)),
 kO 119 (.mov (kT 118)),
 ⟨some 120,.mov (kT 7),(some (119,kF))⟩,
 ⟨some 121,.fldA 2 (kT 5),(some (119,kF))⟩,
 ⟨some 122,.load1 (kT 121),(some (119,kF))⟩,
 ⟨some 123,.lenS (kT 122),(some (119,kF))⟩,
 ⟨some 124,.call 12 [.tmp 120,.tmp 123],(some (119,kF))⟩,
 ⟨some 125,.not (kT 124),(some (119,kF))⟩,
 kO 126 (.pick (kT 119) (.const (.bool kE)) (kT 125)),
 kO 127 (.mov (kT 17)),
 kO 128 (kA .neq (kT 127) (kC 0)),
 kO 129 (.raw (.binOp .neq 4 (kT 126) (kT 128) 4) 4),
 kO 130 (.mov (kT 129)),
 ⟨some 131,.mov (kT 17),(some (130,kF))⟩,
 ⟨some 132,kA .neq (kT 131) (kC 0),(some (130,kF))⟩,
 ⟨some 133,.mov (kT 132),(some (130,kF))⟩,
 ⟨some 134,.mov (kT 17),(some (133,kE))⟩,
 ⟨some 135,.mov (kT 8),(some (133,kE))⟩,
 ⟨some 136,kA .neq (kT 134) (kT 135),(some (133,kE))⟩,
 ⟨some 137,.mov (kT 136),(some (133,kE))⟩,
 ⟨some 138,.mov (kT 16),(some (137,kF))⟩,
 ⟨some 139,.lenS (kT 138),(some (137,kF))⟩,
 ⟨some 140,kA .neq (kT 139) (kC 0),(some (137,kF))⟩,
 ⟨some 141,.pick (kT 137) (.const (.bool kE)) (kT 140),(some (133,kE))⟩,
 ⟨some 142,.pick (kT 133) (kT 141) (.const (.bool kF)),(some (130,kF))⟩,
 kO 143 (.pick (kT 130) (.const (.bool kE)) (kT 142))])
 (.cond (kT 143) (.seq (.ops [kO 4 (.mov (.const (.bool kF)))])
 .ret)
 .skip)))
 (.seq (.seq (.ops [kO 144 (.mov (kT 13)),
 kO 145 (.not (kT 144)),
 kO 146 (.mov (kT 145)),
 ⟨some 147,.mov (kT 7),(some (146,kE))⟩,
 ⟨some 148,.fldA 1 (kT 5),(some (146,kE))⟩,
 ⟨some 149,.load1 (kT 148),(some (146,kE))⟩,
 ⟨some 150,.lenS (kT 149),(some (146,kE))⟩,
 ⟨some 151,.call 12 [.tmp 147,.tmp 150],(some (146,kE))⟩,
 kO 152 (.pick (kT 146) (kT 151) (.const (.bool kF)))])
 (.cond (kT 152) (.seq (.ops [kO 153 (.call 14 []),
 kO 4 (.mov (kT 153))])
 .ret)
 .skip))
 (.seq (.ops [kO 155 (.loadN 3 (kT 6)),
 kO 156 (.mov (kT 7)),
 kO 157 (.call 15 [.tmp 155,.tmp 156]),
 kO 154 (.mov (kT 157)),
 kO 158 (.ext (kT 154) 0),
 kO 159 (.ext (kT 154) 1),
 kO 18 (.mov (kT 158)),
 kO 19 (.mov (kT 159))])
 (.seq (.ops [kO 161 (.loadN 3 (kT 6)),
 kO 162 (.mov (kT 7)),
 kO 163 (.call 16 [.tmp 161,.tmp 162]),
 kO 160 (.mov (kT 163)),
 kO 164 (.ext (kT 160) 0),
 kO 165 (.ext (kT 160) 1),
 kO 20 (.mov (kT 164)),
 kO 21 (.mov (kT 165))])
 (.seq (.ops [kO 167 (.loadN 3 (kT 6)),
 kO 168 (.mov (kT 7)),
 kO 169 (.call 17 [.tmp 167,.tmp 168]),
 kO 166 (.mov (kT 169)),
 kO 170 (.ext (kT 166) 0),
 kO 171 (.ext (kT 166) 1),
 kO 172 (.ext (kT 166) 2),
 kO 22 (.mov (kT 170)),
 kO 23 (.mov (kT 171)),
 kO 24 (.mov (kT 172))])
 (.seq (.ops [kO 174 (.loadN 3 (kT 6)),
 kO 175 (.mov (kT 7)),
 kO 176 (.call 18 [.tmp 174,.tmp 175]),
 kO 173 (.mov (kT 176)),
 kO 177 (.ext (kT 173) 0),
 kO 178 (.ext (kT 173) 1),
 kO 179 (.ext (kT 173) 2),
 kO 25 (.mov (kT 177)),
 kO 26 (.mov (kT 178)),
 kO 27 (.mov (kT 179))])
 (.seq (.ops [kO 181 (.loadN 3 (kT 6)),
 kO 182 (.mov (kT 7)),
 kO 183 (.slit 3 3 [kZ,kZ,kZ] [(0,1,(kC 0)),(1,1,(kC 1)),(2,1,(kC 2))]),
 kO 184 (.call 19 [.tmp 181,.tmp 182,.tmp 183]),
 kO 180 (.mov (kT 184)),
 kO 185 (.ext (kT 180) 0),
 kO 186 (.ext (kT 180) 1),
 kO 187 (.ext (kT 180) 2),
 kO 28 (.mov (kT 185)),
 kO 29 (.mov (kT 186)),
 kO 30 (.mov (kT 187))])
 (.seq (.ops [kO 189 (.loadN 3 (kT 6)),
 kO 190 (.mov (kT 7)),
 kO 191 (.call 20 [.tmp 189,.tmp 190]),
 kO 188 (.mov (kT 191)),
 kO 192 (.ext (kT 188) 0),
 kO 193 (.ext (kT 188) 1),
 kO 31 (.alloc 45 [kN,kN,kN]),
 ⟨none,.store 3 (kT 31) (kT 192),none⟩,
 kO 32 (.mov (kT 193))])
 (.seq (.ops [kO 195 (.loadN 3 (kT 6)),
 kO 196 (.mov (kT 7)),
 kO 197 (.call 21 [.tmp 195,.tmp 196]),
 kO 194 (.mov (kT 197)),
 kO 198 (.ext (kT 194) 0),
 kO 199 (.ext (kT 194) 1),
 kO 33 (.mov (kT 198)),
 kO 34 (.mov (kT 199))])
 (.seq (.ops [kO 201 (.loadN 3 (kT 6)),
 kO 202 (.mov (kT 7)),
 kO 203 (.call 22 [.tmp 201,.tmp 202]),
 kO 200 (.mov (kT 203)),
 kO 204 (.ext (kT 200) 0),
 kO 205 (.ext (kT 200) 1),
 kO 35 (.alloc 51 [kZ,kZ,kZ,kZ,kZ,kZ,kZ,kZ]),
 ⟨none,.store 8 (kT 35) (kT 204),none⟩,
 kO 36 (.mov (kT 205))])
 (.seq (.ops [kO 207 (.loadN 3 (kT 6)),
 kO 208 (.mov (kT 7)),
 kO 209 (.call 23 [.tmp 207,.tmp 208]),
 kO 206 (.mov (kT 209)),
 kO 210 (.ext (kT 206) 0),
 kO 211 (.ext (kT 206) 1),
 kO 37 (.mov (kT 210)),
 kO 38 (.mov (kT 211))])
 (.seq (.ops [kO 212 (.mov (kT 19)),
 kO 213 (.mov (kT 8)),
 kO 214 (kA .eql (kT 212) (kT 213)),
 kO 215 (.mov (kT 214)),
 ⟨some 216,.mov (kT 21),(some (215,kE))⟩,
 ⟨some 217,.mov (kT 8),(some (215,kE))⟩,
 ⟨some 218,kA .eql (kT 216) (kT 217),(some (215,kE))⟩,
 kO 219 (.pick (kT 215) (kT 218) (.const (.bool kF))),
 kO 220 (.mov (kT 219)),
 ⟨some 221,.mov (kT 24),(some (220,kE))⟩,
 ⟨some 222,.mov (kT 8),(some (220,kE))⟩,
 ⟨some 223,kA .eql (kT 221) (kT 222),(some (220,kE))⟩,
 kO 224 (.pick (kT 220) (kT 223) (.const (.bool kF))),
 kO 225 (.mov (kT 224)),
 ⟨some 226,.mov (kT 27),(some (225,kE))⟩,
 ⟨some 227,.mov (kT 8),(some (225,kE))⟩,
 ⟨some 228,kA .eql (kT 226) (kT 227),(some (225,kE))⟩,
 kO 229 (.pick (kT 225) (kT 228) (.const (.bool kF))),
 kO 230 (.mov (kT 229)),
 ⟨some 231,.mov (kT 30),(some (230,kE))⟩,
 ⟨some 232,.mov (kT 8),(some (230,kE))⟩,
 ⟨some 233,kA .eql (kT 231) (kT 232),(some (230,kE))⟩,
 kO 234 (.pick (kT 230) (kT 233) (.const (.bool kF))),
 kO 235 (.mov (kT 234)),
 ⟨some 236,.mov (kT 32),(some (235,kE))⟩,
 ⟨some 237,.mov (kT 8),(some (235,kE))⟩,
 ⟨some 238,kA .eql (kT 236) (kT 237),(some (235,kE))⟩,
 kO 239 (.pick (kT 235) (kT 238) (.const (.bool kF))),
 kO 240 (.mov (kT 239)),
 ⟨some 241,.mov (kT 34),(some (240,kE))⟩,
 ⟨some 242,.mov (kT 8),(some (240,kE))⟩,
 ⟨some 243,kA .eql (kT 241) (kT 242),(some (240,kE))⟩,
 kO 244 (.pick (kT 240) (kT 243) (.const (.bool kF))),
 kO 245 (.mov (kT 244)),
 ⟨some 246,.mov (kT 36),(some (245,kE))⟩,
 ⟨some 247,.mov (kT 8),(some (245,kE))⟩,
 ⟨some 248,kA .eql (kT 246) (kT 247),(some (245,kE))⟩,
 kO 249 (.pick (kT 245) (kT 248) (.const (.bool kF))),
 kO 250 (.mov (kT 249)),
 ⟨some 251,.mov (kT 38),(some (250,kE))⟩,
 ⟨some 252,.mov (kT 8),(some (250,kE))⟩,
 ⟨some 253,kA .eql (kT 251) (kT 252),(some (250,kE))⟩,
 kO 254 (.pick (kT 250) (kT 253) (.const (.bool kF))),
 kO 255 (.mov (kT 254)),
 ⟨some 256,.mov (kT 23),(some (255,kE))⟩,
 ⟨some 257,.not (kT 256),(some (255,kE))⟩,
 kO 258 (.pick (kT 255) (kT 257) (.const (.bool kF))),
 kO 259 (.mov (kT 258)),
 ⟨some 260,.mov (kT 26),(some (259,kE))⟩,
 ⟨some 261,.not (kT 260),(some (259,kE))⟩,
 kO 262 (.pick (kT 259) (kT 261) (.const (.bool kF))),
 kO 263 (.mov (kT 262)),
 ⟨some 264,.mov (kT 29),(some (263,kE))⟩,
 ⟨some 265,.not (kT 264),(some (263,kE))⟩,
 kO 266 (.pick (kT 263) (kT 265) (.const (.bool kF))),
 kO 267 (.mov (kT 266)),
 ⟨some 268,.mov (kT 37),(some (267,kE))⟩,
 ⟨some 269,.not (kT 268),(some (267,kE))⟩,
 kO 270 (.pick (kT 267) (kT 269) (.const (.bool kF))),
 kO 271 (.mov (kT 270)),
 ⟨some 272,.mov (kT 28),(some (271,kE))⟩,
 ⟨some 273,kA .eql (kT 272) (kC 0),(some (271,kE))⟩,
 kO 274 (.pick (kT 271) (kT 273) (.const (.bool kF))),
 kO 275 (.mov (kT 274)),
 ⟨some 276,.mov (kT 18),(some (275,kE))⟩,
 ⟨some 277,.lenS (kT 276),(some (275,kE))⟩,
 ⟨some 278,.mov (kT 20),(some (275,kE))⟩,
 ⟨some 279,.lenS (kT 278),(some (275,kE))⟩,
 ⟨some 280,kA .add (kT 277) (kT 279),(some (275,kE))⟩,
 ⟨some 281,.mov (kT 22),(some (275,kE))⟩,
 ⟨some 282,.lenS (kT 281),(some (275,kE))⟩,
 ⟨some 283,kA .add (kT 280) (kT 282),(some (275,kE))⟩,
 ⟨some 284,.mov (kT 25),(some (275,kE))⟩,
 ⟨some 285,.lenS (kT 284),(some (275,kE))⟩,
 ⟨some 286,kA .add (kT 283) (kT 285),(some (275,kE))⟩,
 ⟨some 287,.idxA 3 1 (kT 31) (kC 0),(some (275,kE))⟩,
 ⟨some 288,.load1 (kT 287),(some (275,kE))⟩,
 ⟨some 289,.lenS (kT 288),(some (275,kE))⟩,
 ⟨some 290,kA .add (kT 286) (kT 289),(some (275,kE))⟩,
 ⟨some 291,.idxA 3 1 (kT 31) (kC 1),(some (275,kE))⟩,
 ⟨some 292,.load1 (kT 291),(some (275,kE))⟩,
 ⟨some 293,.lenS (kT 292),(some (275,kE))⟩,
 ⟨some 294,kA .add (kT 290) (kT 293),(some (275,kE))⟩,
 ⟨some 295,.idxA 3 1 (kT 31) (kC 2),(some (275,kE))⟩,
 ⟨some 296,.load1 (kT 295),(some (275,kE))⟩,
 ⟨some 297,.lenS (kT 296),(some (275,kE))⟩,
 ⟨some 298,kA .add (kT 294) (kT 297),(some (275,kE))⟩,
 ⟨some 299,.mov (kT 33),(some (275,kE))⟩,
 ⟨some 300,.lenS (kT 299),(some (275,kE))⟩,
 ⟨some 301,kA .add (kT 298) (kT 300),(some (275,kE))⟩,
 ⟨some 302,kA .eql (kT 301) (kC 0),(some (275,kE))⟩,
 kO 303 (.pick (kT 275) (kT 302) (.const (.bool kF))),
 kO 304 (.mov (kT 303)),
 ⟨some 305,.loadN 8 (kT 35),(some (304,kE))⟩,
 ⟨some 306,.aggr [kZ,kZ,kZ,kZ,kZ,kZ,kZ,kZ] [],(some (304,kE))⟩,
 ⟨some 307,.raw (.binOp .eql 51 (kT 305) (kT 306) 51) 4,(some (304,kE))⟩,
 kO 308 (.pick (kT 304) (kT 307) (.const (.bool kF))),
 kO 309 (.mov (kT 308)),
 ⟨some 310,.call 14 [],(some (309,kE))⟩,
 kO 311 (.pick (kT 309) (kT 310) (.const (.bool kF))),
 kO 4 (.mov (kT 311))])
 .ret))))))))))))))))))))))
theorem enter3 (hl : xs.length ≤ 312) (w : wq E 312 none c3 (frameOf xs) h [] (leaveQ E [.tmp 4] Q)) : CallP E 3 xs h Q :=
  CallP.enterQ (fn := Try.f3) (fn_get Try.func3) (code := Try.f3.body.get rfl) rfl rfl rfl (by kernel_rfl) rfl (fun _ => rfl) hl w
theorem can3 : callable E 3 = true := callable_get Try.func3 rfl rfl
def c4 : C := (.seq (.ops [kO 1 (.box 25 (kT 0)),
 kO 2 (.alloc 27 [kZ,kN,kN])])
 (.seq (.ops [kO 3 (.mov (.const kN))])
 (.seq (.ops [kO 4 (.mov (.const kN))])
 (.seq (.draw [kO 5 (.fldA 0 (kT 1)),
 kO 6 (.load1 (kT 5)),
 kO 7 (.mov (kT 3)),
 kO 8 (.fldA 1 (kT 1)),
 kO 9 (.load1 (kT 8)),
 kO 10 (.fldA 1 (kT 1)),
 kO 11 (.load1 (kT 10)),
 kO 12 (.lenS (kT 11)),
 kO 13 (.raw (.call ⟨.builtin .min,⟨[.tmp 12,(kC 11)]⟩,⟨[3,3]⟩⟩) 3),
 kO 14 (.cutS 2 (kT 9) none (some (kT 13)) none),
 kO 15 (.append 57 2 16 (kT 7) (kT 14)),
 kO 16 (.mov (kT 4)),
 kO 17 (.fldA 2 (kT 1)),
 kO 18 (.load1 (kT 17)),
 kO 19 (.fldA 2 (kT 1)),
 kO 20 (.load1 (kT 19)),
 kO 21 (.lenS (kT 20)),
 kO 22 (.raw (.call ⟨.builtin .min,⟨[.tmp 21,(kC 7)]⟩,⟨[3,3]⟩⟩) 3),
 kO 23 (.cutS 3 (kT 18) none (some (kT 22)) none),
 kO 24 (.append 58 3 24 (kT 16) (kT 23)),
 kO 25 (.aggr [kZ,kN,kN] [(0,1,(kT 6)),(1,1,(kT 15)),(2,1,(kT 24))]),
 ⟨none,.store 3 (kT 2) (kT 25),none⟩]
 [⟨kF,kE,fL0,fL9⟩,
 ⟨kF,kE,fL0,fL9⟩,
 ⟨kF,kF,fL0,fL0⟩,
 ⟨kF,kF,fL0,fL0⟩,
 ⟨kF,kF,fL0,fL0⟩,
 ⟨kF,kF,fL0,fL0⟩,
 ⟨kF,kF,fL0,fL0⟩,
 ⟨kF,kF,fL0,fL0⟩,
 ⟨kF,kF,fL0,fL0⟩,
 ⟨kF,kF,fL0,fL0⟩,
 ⟨kE,kF,fL0,fL3⟩,
 ⟨kF,kE,fL0,fL3⟩,
 ⟨kF,kE,fL0,fL3⟩,
 ⟨kF,kE,fL0,fL3⟩,
 ⟨kF,kE,fL0,fL3⟩,
 ⟨kF,kE,fL0,fL3⟩,
 ⟨kF,kE,fL0,fL3⟩,
 ⟨kF,kE,fL0,fL3⟩,
 ⟨kF,kE,fL0,fL3⟩,
 ⟨kE,kF,fL3,fL9⟩,
 ⟨kF,kF,fL9,fL9⟩,
 ⟨kE,kF,fL9,[kF,kF,kF,kF,kF,kF,kF,kF,kF,kF,kE,kF,kF,kF,kF,kF,kF,kF,kF,kE,kF,kE]⟩])
 .ret))))
theorem enter4 (hl : xs.length ≤ 26) (w : wq E 26 none c4 (frameOf xs) h [] (leaveQ E [.cell 2 27] Q)) : CallP E 4 xs h Q :=
  CallP.enterQ (fn := Try.f4) (fn_get Try.func4) (code := Try.f4.body.get rfl) rfl rfl rfl (by kernel_rfl) rfl (fun _ => rfl) hl w
theorem can4 : callable E 4 = true := callable_get Try.func4 rfl rfl
def c5 : C := (.seq (.ops [kO 1 (.box 27 (kT 0)),
 kO 2 (.alloc 25 [kZ,kN,kN])])
 (.seq (.ops [kO 3 (.mov (.const kN))])
 (.seq (.ops [kO 4 (.mov (.const kN))])
 (.seq (.draw [kO 5 (.fldA 0 (kT 1)),
 kO 6 (.load1 (kT 5)),
 kO 7 (.mov (kT 3)),
 kO 8 (.fldA 1 (kT 1)),
 kO 9 (.load1 (kT 8)),
 kO 10 (.append 57 2 16 (kT 7) (kT 9)),
 kO 11 (.mov (kT 4)),
 kO 12 (.fldA 2 (kT 1)),
 kO 13 (.load1 (kT 12)),
 kO 14 (.append 58 3 24 (kT 11) (kT 13)),
 kO 15 (.aggr [kZ,kN,kN] [(0,1,(kT 6)),(1,1,(kT 10)),(2,1,(kT 14))]),
 ⟨none,.store 3 (kT 2) (kT 15),none⟩]
 [⟨kF,kE,fL2,fL10⟩,
 ⟨kF,kE,fL2,fL10⟩,
 ⟨kF,kF,fL2,fL2⟩,
 ⟨kF,kF,fL2,fL2⟩,
 ⟨kF,kF,fL2,fL2⟩,
 ⟨kE,kF,fL2,fL11⟩,
 ⟨kF,kE,fL2,fL11⟩,
 ⟨kF,kE,fL2,fL11⟩,
 ⟨kF,kE,fL2,fL11⟩,
 ⟨kE,kF,fL11,fL10⟩,
 ⟨kF,kF,fL10,fL10⟩,
 ⟨kE,kF,fL10,[kF,kF,kF,kF,kF,kE,kF,kF,kF,kE,kF,kE]⟩])
 .ret))))
theorem enter5 (hl : xs.length ≤ 16) (w : wq E 16 none c5 (frameOf xs) h [] (leaveQ E [.cell 2 25] Q)) : CallP E 5 xs h Q :=
  CallP.enterQ (fn := Try.f5) (fn_get Try.func5) (code := Try.f5.body.get rfl) rfl rfl rfl (by kernel_rfl) rfl (fun _ => rfl) hl w
theorem can5 : callable E 5 = true := callable_get Try.func5 rfl rfl
def c6 : C := (.seq (.ops [kO 4 (.mov (.const kN))])
 (.seq (.ops [kO 5 (.mov (.const kN))])
 (.seq (.ops [kO 6 (.mov (kT 5)),
 kO 7 (.mov (kT 0)),
 kO 8 (.mov (kT 0)),
 kO 9 (.lenS (kT 8)),
 kO 10 (.mov (kT 1)),
 kO 11 (.raw (.call ⟨.builtin .min,⟨[.tmp 9,.tmp 10]⟩,⟨[3,3]⟩⟩) 3),
 kO 12 (.cutS 1 (kT 7) none (some (kT 11)) none),
 kO 13 (.append 3 1 8 (kT 6) (kT 12)),
 kO 4 (.mov (kT 13))])
 .ret)))
theorem enter6 (hl : xs.length ≤ 14) (w : wq E 14 none c6 (frameOf xs) h [] (leaveQ E [.tmp 4] Q)) : CallP E 6 xs h Q :=
  CallP.enterQ (fn := Try.f6) (fn_get Try.func6) (code := Try.f6.body.get rfl) rfl rfl rfl (by kernel_rfl) rfl (fun _ => rfl) hl w
theorem can6 : callable E 6 = true := callable_get Try.func6 rfl rfl
def c7 : C := (.seq (.ops [kO 1 (.box 27 (kT 0)),
 kO 2 (.mov (.const (.bool kF)))])
 (.seq (.seq (.ops [kO 8 (.fldA 0 (kT 1)),
 kO 9 (.load1 (kT 8)),
 kO 10 (kA .lss (kT 9) (kC 1)),
 kO 11 (.mov (kT 10)),
 ⟨some 12,.fldA 0 (kT 1),(some (11,kF))⟩,
 ⟨some 13,.load1 (kT 12),(some (11,kF))⟩,
 ⟨some 14,kA .gtr (kT 13) (kC 6),(some (11,kF))⟩,
 kO 15 (.pick (kT 11) (.const (.bool kE)) (kT 14)),
 kO 16 (.mov (kT 15)),
 ⟨some 17,.fldA 1 (kT 1),(some (16,kF))⟩,
 ⟨some 18,.load1 (kT 17),(some (16,kF))⟩,
 ⟨some 19,.lenS (kT 18),(some (16,kF))⟩,
 ⟨some 20,kA .gtr (kT 19) (kC 10),(some (16,kF))⟩,
 kO 21 (.pick (kT 16) (.const (.bool kE)) (kT 20)),
 kO 22 (.mov (kT 21)),
 ⟨some 23,.fldA 2 (kT 1),(some (22,kF))⟩,
 ⟨some 24,.load1 (kT 23),(some (22,kF))⟩,
 ⟨some 25,.lenS (kT 24),(some (22,kF))⟩,
 ⟨some 26,kA .gtr (kT 25) (kC 6),(some (22,kF))⟩,
 kO 27 (.pick (kT 22) (.const (.bool kE)) (kT 26))])
 (.cond (kT 27) (.seq (.ops [kO 2 (.mov (.const (.bool kF)))])
 .ret)
 .skip))
 (.seq (.seq (.ops [kO 3 (.mov (kC 0))])
 (.block 0 (.loop (.seq (.seq (.ops [kO 28 (.mov (kT 3)),
 kO 29 (.fldA 1 (kT 1)),
 kO 30 (.load1 (kT 29)),
 kO 31 (.lenS (kT 30)),
 kO 32 (kA .lss (kT 28) (kT 31))])
 (.cond (kT 32) .skip
 (.exit 0)))
 (.seq (.block 1 (.seq (.ops [kO 35 (.fldA 1 (kT 1)),
 kO 36 (.load1 (kT 35)),
 kO 37 (.mov (kT 3)),
 kO 38 (.idxS 2 (kT 36) (kT 37)),
 kO 39 (.idxA 2 1 (kT 38) (kC 0)),
 kO 40 (.load1 (kT 39)),
 kO 41 (.fldA 1 (kT 1)),
 kO 42 (.load1 (kT 41)),
 kO 43 (.mov (kT 3)),
 kO 44 (.idxS 2 (kT 42) (kT 43)),
 kO 45 (.idxA 2 1 (kT 44) (kC 1)),
 kO 46 (.load1 (kT 45)),
 kO 4 (.mov (kT 40)),
 kO 5 (.mov (kT 46))])
 (.seq (.ops [kO 47 (.mov (kT 4)),
 kO 48 (kA .lss (kT 47) (kC 0)),
 kO 49 (.mov (kT 48)),
 ⟨some 50,.mov (kT 4),(some (49,kF))⟩,
 ⟨some 51,.mov (kT 5),(some (49,kF))⟩,
 ⟨some 52,kA .geq (kT 50) (kT 51),(some (49,kF))⟩,
 kO 53 (.pick (kT 49) (.const (.bool kE)) (kT 52)),
 kO 54 (.mov (kT 53)),
 ⟨some 55,.mov (kT 5),(some (54,kF))⟩,
 ⟨some 56,.fldA 0 (kT 1),(some (54,kF))⟩,
 ⟨some 57,.load1 (kT 56),(some (54,kF))⟩,
 ⟨some 58,kA .geq (kT 55) (kT 57),(some (54,kF))⟩,
 kO 59 (.pick (kT 54) (.const (.bool kE)) (kT 58)),
 kO 60 (.mov (kT 59)),
 ⟨some 61,.mov (kT 3),(some (60,kF))⟩,
 ⟨some 62,kA .gtr (kT 61) (kC 0),(some (60,kF))⟩,
 ⟨some 63,.mov (kT 62),(some (60,kF))⟩,
 ⟨some 64,.fldA 1 (kT 1),(some (63,kE))⟩,
 ⟨some 65,.load1 (kT 64),(some (63,kE))⟩,
 ⟨some 66,.mov (kT 3),(some (63,kE))⟩,
 ⟨some 67,kA .sub (kT 66) (kC 1),(some (63,kE))⟩,
 ⟨some 68,.idxS 2 (kT 65) (kT 67),(some (63,kE))⟩,
 ⟨some 69,.idxA 2 1 (kT 68) (kC 0),(some (63,kE))⟩,
 ⟨some 70,.load1 (kT 69),(some (63,kE))⟩,
 ⟨some 71,.mov (kT 4),(some (63,kE))⟩,
 ⟨some 72,kA .gtr (kT 70) (kT 71),(some (63,kE))⟩,
 ⟨some 73,.mov (kT 72),(some (63,kE))⟩,
 ⟨some 74,.fldA 1 (kT 1),(some (73,kF))⟩,
 ⟨some 75,.load1 (kT 74),(some (73,kF))⟩,
 ⟨some 76,.mov (kT 3),(some (73,kF))⟩,
 ⟨some 77,kA .sub (kT 76) (kC 1),(some (73,kF))⟩,
 ⟨some 78,.idxS 2 (kT 75) (kT 77),(some (73,kF))⟩,
 ⟨some 79,.idxA 2 1 (kT 78) (kC 0),(some (73,kF))⟩,
 ⟨some 80,.load1 (kT 79),(some (73,kF))⟩,
 ⟨some 81,.mov (kT 4),(some (73,kF))⟩,
 ⟨some 82,kA .eql (kT 80) (kT 81),(some (73,kF))⟩,
 ⟨some 83,.mov (kT 82),(some (73,kF))⟩,
 ⟨some 84,.fldA 1 (kT 1),(some (83,kE))⟩,
 ⟨some 85,.load1 (kT 84),(some (83,kE))⟩,
 ⟨some 86,.mov (kT 3),(some (83,kE))⟩,
 ⟨some 87,kA .sub (kT 86) (kC 1),(some (83,kE))⟩,
 ⟨some 88,.idxS 2 (kT 85) (kT 87),(some (83,kE))⟩,
 ⟨some 89,.idxA 2 1 (kT 88) (kC 1),(some (83,kE))⟩,
 ⟨some 90,.load1 (kT 89),(some (83,kE))⟩,
 ⟨some 91,.mov (kT 5),(some (83,kE))⟩,
 ⟨some 92,kA .geq (kT 90) (kT 91),(some (83,kE))⟩,
 ⟨some 93,.pick (kT 83) (kT 92) (.const (.bool kF)),(some (73,kF))⟩,
 ⟨some 94,.pick (kT 73) (.const (.bool kE)) (kT 93),(some (63,kE))⟩,
 ⟨some 95,.pick (kT 63) (kT 94) (.const (.bool kF)),(some (60,kF))⟩,
 kO 96 (.pick (kT 60) (.const (.bool kE)) (kT 95))])
 (.cond (kT 96) (.seq (.ops [kO 2 (.mov (.const (.bool kF)))])
 .ret)
 .skip))))
 (.ops [kO 33 (.mov (kT 3)),
 kO 34 (kA .add (kT 33) (kC 1)),
 kO 3 (.mov (kT 34))]))))))
 (.seq (.seq (.ops [kO 6 (.mov (kC 0))])
 (.block 2 (.loop (.seq (.seq (.ops [kO 97 (.mov (kT 6)),
 kO 98 (.fldA 2 (kT 1)),
 kO 99 (.load1 (kT 98)),
 kO 100 (.lenS (kT 99)),
 kO 101 (kA .lss (kT 97) (kT 100))])
 (.cond (kT 101) .skip
 (.exit 2)))
 (.seq (.block 3 (.seq (.ops [kO 104 (.fldA 2 (kT 1)),
 kO 105 (.load1 (kT 104)),
 kO 106 (.mov (kT 6)),
 kO 107 (.idxS 3 (kT 105) (kT 106)),
 kO 108 (.loadN 3 (kT 107)),
 kO 7 (.alloc 58 [kZ,kZ,kZ]),
 ⟨none,.store 3 (kT 7) (kT 108),none⟩])
 (.seq (.ops [kO 109 (.idxA 3 1 (kT 7) (kC 0)),
 kO 110 (.load1 (kT 109)),
 kO 111 (.idxA 3 1 (kT 7) (kC 1)),
 kO 112 (.load1 (kT 111)),
 kO 113 (kA .geq (kT 110) (kT 112)),
 kO 114 (.mov (kT 113)),
 ⟨some 115,.idxA 3 1 (kT 7) (kC 1),(some (114,kF))⟩,
 ⟨some 116,.load1 (kT 115),(some (114,kF))⟩,
 ⟨some 117,.idxA 3 1 (kT 7) (kC 2),(some (114,kF))⟩,
 ⟨some 118,.load1 (kT 117),(some (114,kF))⟩,
 ⟨some 119,kA .geq (kT 116) (kT 118),(some (114,kF))⟩,
 kO 120 (.pick (kT 114) (.const (.bool kE)) (kT 119)),
 kO 121 (.mov (kT 120)),
 ⟨some 122,.loadN 3 (kT 1),(some (121,kF))⟩,
 ⟨some 123,.idxA 3 1 (kT 7) (kC 0),(some (121,kF))⟩,
 ⟨some 124,.load1 (kT 123),(some (121,kF))⟩,
 ⟨some 125,.idxA 3 1 (kT 7) (kC 1),(some (121,kF))⟩,
 ⟨some 126,.load1 (kT 125),(some (121,kF))⟩,
 ⟨some 127,.call 24 [.tmp 122,.tmp 124,.tmp 126],(some (121,kF))⟩,
 ⟨some 128,kA .lss (kT 127) (kC 0),(some (121,kF))⟩,
 kO 129 (.pick (kT 121) (.const (.bool kE)) (kT 128)),
 kO 130 (.mov (kT 129)),
 ⟨some 131,.loadN 3 (kT 1),(some (130,kF))⟩,
 ⟨some 132,.idxA 3 1 (kT 7) (kC 0),(some (130,kF))⟩,
 ⟨some 133,.load1 (kT 132),(some (130,kF))⟩,
 ⟨some 134,.idxA 3 1 (kT 7) (kC 2),(some (130,kF))⟩,
 ⟨some 135,.load1 (kT 134),(some (130,kF))⟩,
 ⟨some 136,.call 24 [.tmp 131,.tmp 133,.tmp 135],(some (130,kF))⟩,
 ⟨some 137,kA .lss (kT 136) (kC 0),(some (130,kF))⟩,
 kO 138 (.pick (kT 130) (.const (.bool kE)) (kT 137)),
 kO 139 (.mov (kT 138)),
 ⟨some 140,.loadN 3 (kT 1),(some (139,kF))⟩,
 ⟨some 141,.idxA 3 1 (kT 7) (kC 1),(some (139,kF))⟩,
 ⟨some 142,.load1 (kT 141),(some (139,kF))⟩,
 ⟨some 143,.idxA 3 1 (kT 7) (kC 2),(some (139,kF))⟩,
 ⟨some 144,.load1 (kT 143),(some (139,kF))⟩,
 ⟨some 145,.call 24 [.tmp 140,.tmp 142,.tmp 144],(some (139,kF))⟩,
 ⟨some 146,kA .lss (kT 145) (kC 0),(some (139,kF))⟩,
 kO 147 (.pick (kT 139) (.const (.bool kE)) (kT 146)),
 kO 148 (.mov (kT 147)),
 ⟨some 149,.mov (kT 6),(some (148,kF))⟩,
 ⟨some 150,kA .gtr (kT 149) (kC 0),(some (148,kF))⟩,
 ⟨some 151,.mov (kT 150),(some (148,kF))⟩,
 ⟨some 152,.fldA 2 (kT 1),(some (151,kE))⟩,
 ⟨some 153,.load1 (kT 152),(some (151,kE))⟩,
 ⟨some 154,.mov (kT 6),(some (151,kE))⟩,
 ⟨some 155,kA .sub (kT 154) (kC 1),(some (151,kE))⟩,
 ⟨some 156,.idxS 3 (kT 153) (kT 155),(some (151,kE))⟩,
 ⟨some 157,.loadN 3 (kT 156),(some (151,kE))⟩,
 ⟨some 158,.loadN 3 (kT 7),(some (151,kE))⟩,
 ⟨some 159,.call 25 [.tmp 157,.tmp 158],(some (151,kE))⟩,
 ⟨some 160,.not (kT 159),(some (151,kE))⟩,
 ⟨some 161,.pick (kT 151) (kT 160) (.const (.bool kF)),(some (148,kF))⟩,
 kO 162 (.pick (kT 148) (.const (.bool kE)) (kT 161))])
 (.cond (kT 162) (.seq (.ops [kO 2 (.mov (.const (.bool kF)))])
 .ret)
 .skip))))
 (.ops [kO 102 (.mov (kT 6)),
 kO 103 (kA .add (kT 102) (kC 1)),
 kO 6 (.mov (kT 103))]))))))
 (.seq (.ops [kO 2 (.mov (.const (.bool kE)))])
 .ret)))))
theorem enter7 (hl : xs.length ≤ 163) (w : wq E 163 none c7 (frameOf xs) h [] (leaveQ E [.tmp 2] Q)) : CallP E 7 xs h Q :=
  CallP.enterQ (fn := Try.f7) (fn_get Try.func7) (code := Try.f7.body.get rfl) rfl rfl rfl (by kernel_rfl) rfl (fun _ => rfl) hl w
theorem can7 : callable E 7 = true := callable_get Try.func7 rfl rfl
def c8 : C := (.seq (.ops [kO 1 (.box 25 (kT 0)),
 kO 2 (.mov (kC 0))])
 (.seq (.seq (.ops [kO 3 (.fldA 0 (kT 1)),
 kO 4 (.load1 (kT 3)),
 kO 5 (kA .lss (kT 4) (kC 1)),
 kO 6 (.mov (kT 5)),
 ⟨some 7,.fldA 0 (kT 1),(some (6,kF))⟩,
 ⟨some 8,.load1 (kT 7),(some (6,kF))⟩,
 ⟨some 9,kA .gtr (kT 8) (kC 6),(some (6,kF))⟩,
 kO 10 (.pick (kT 6) (.const (.bool kE)) (kT 9)),
 kO 11 (.mov (kT 10)),
 ⟨some 12,.loadN 3 (kT 1),(some (11,kF))⟩,
 ⟨some 13,.call 26 [.tmp 12],(some (11,kF))⟩,
 ⟨some 14,.not (kT 13),(some (11,kF))⟩,
 kO 15 (.pick (kT 11) (.const (.bool kE)) (kT 14)),
 kO 16 (.mov (kT 15)),
 ⟨some 17,.loadN 3 (kT 1),(some (16,kF))⟩,
 ⟨some 18,.call 27 [.tmp 17],(some (16,kF))⟩,
 ⟨some 19,.not (kT 18),(some (16,kF))⟩,
 kO 20 (.pick (kT 16) (.const (.bool kE)) (kT 19))])
 (.cond (kT 20) (.seq (.ops [kO 2 (.mov (kC 30))])
 .ret)
 .skip))
 (.seq (.ops [kO 2 (.mov (kC 0))])
 .ret)))
theorem enter8 (hl : xs.length ≤ 21) (w : wq E 21 none c8 (frameOf xs) h [] (leaveQ E [.tmp 2] Q)) : CallP E 8 xs h Q :=
  CallP.enterQ (fn := Try.f8) (fn_get Try.func8) (code := Try.f8.body.get rfl) rfl rfl rfl (by kernel_rfl) rfl (fun _ => rfl) hl w
theorem can8 : callable E 8 = true := callable_get Try.func8 rfl rfl
def c9 : C := (.seq (.ops [kO 1 (.box 25 (kT 0)),
 kO 2 (.mov (kC 0)),
 kO 3 (.mov (kC 0))])
 (.seq (.seq (.ops [kO 6 (.loadN 3 (kT 1)),
 kO 7 (.call 8 [.tmp 6]),
 kO 4 (.mov (kT 7))])
 (.seq (.ops [kO 8 (.mov (kT 4)),
 kO 9 (kA .neq (kT 8) (kC 0))])
 (.cond (kT 9) (.seq (.ops [kO 10 (.mov (kT 4)),
 kO 2 (.mov (kC 0)),
 kO 3 (.mov (kT 10))])
 .ret)
 .skip)))
 (.seq (.ops [kO 11 (.fldA 1 (kT 1)),
 kO 12 (.load1 (kT 11)),
 kO 13 (.lenS (kT 12)),
 kO 5 (.mov (kT 13))])
 (.seq (.draw [kO 14 (.mov (kT 5)),
 kO 15 (.loadN 3 (kT 1)),
 kO 16 (.call 29 [.tmp 15]),
 kO 17 (.mov (kT 5)),
 kO 18 (.call 28 [.tmp 16,.tmp 17]),
 kO 19 (kA .sub (kT 14) (kT 18)),
 kO 20 (.loadN 3 (kT 1)),
 kO 21 (.call 30 [.tmp 20]),
 kO 22 (.mov (kT 5)),
 kO 23 (.call 28 [.tmp 21,.tmp 22]),
 kO 24 (kA .sub (kT 19) (kT 23)),
 kO 2 (.mov (kT 24)),
 kO 3 (.mov (kC 0))]
 [⟨kF,kE,fL8,fL7⟩,
 ⟨kF,kF,fL8,fL8⟩,
 ⟨kE,kF,fL8,fL13⟩,
 ⟨kF,kE,fL8,fL13⟩,
 ⟨kE,kF,fL13,fL12⟩,
 ⟨kF,kE,fL12,fL7⟩,
 ⟨kF,kE,fL8,fL12⟩,
 ⟨kE,kF,fL12,fL14⟩,
 ⟨kF,kE,fL8,fL14⟩,
 ⟨kE,kF,fL14,fL7⟩,
 ⟨kF,kF,fL7,fL7⟩,
 ⟨kF,kF,fL7,fL7⟩,
 ⟨kF,kF,fL7,fL7⟩])
 .ret))))
theorem enter9 (hl : xs.length ≤ 25) (w : wq E 25 none c9 (frameOf xs) h [] (leaveQ E [.tmp 2,.tmp 3] Q)) : CallP E 9 xs h Q :=
  CallP.enterQ (fn := Try.f9) (fn_get Try.func9) (code := Try.f9.body.get rfl) rfl rfl rfl (by kernel_rfl) rfl (fun _ => rfl) hl w
theorem can9 : callable E 9 = true := callable_get Try.func9 rfl rfl
def c10 : C := (.seq (.ops [kO 1 (.box 25 (kT 0)),
 kO 2 (.mov (kC 0)),
 kO 3 (.mov (kC 0))])
 (.seq (.seq (.ops [kO 5 (.loadN 3 (kT 1)),
 kO 6 (.call 8 [.tmp 5]),
 kO 4 (.mov (kT 6))])
 (.seq (.ops [kO 7 (.mov (kT 4)),
 kO 8 (kA .neq (kT 7) (kC 0))])
 (.cond (kT 8) (.seq (.ops [kO 9 (.mov (kT 4)),
 kO 2 (.mov (kC 0)),
 kO 3 (.mov (kT 9))])
 .ret)
 .skip)))
 (.seq (.ops [kO 10 (.loadN 3 (kT 1)),
 kO 11 (.call 31 [.tmp 10]),
 kO 12 (.lenS (kT 11)),
 kO 2 (.mov (kT 12)),
 kO 3 (.mov (kC 0))])
 .ret)))
theorem enter10 (hl : xs.length ≤ 13) (w : wq E 13 none c10 (frameOf xs) h [] (leaveQ E [.tmp 2,.tmp 3] Q)) : CallP E 10 xs h Q :=
  CallP.enterQ (fn := Try.f10) (fn_get Try.func10) (code := Try.f10.body.get rfl) rfl rfl rfl (by kernel_rfl) rfl (fun _ => rfl) hl w
theorem can10 : callable E 10 = true := callable_get Try.func10 rfl rfl
def c11 : C := (.seq (.ops [kO 2 (.box 25 (kT 0)),
 kO 4 (.mov (.const kN)),
 kO 5 (.mov (kC 0))])
 (.seq (.seq (.ops [kO 8 (.loadN 3 (kT 2)),
 kO 9 (.call 8 [.tmp 8]),
 kO 6 (.mov (kT 9))])
 (.seq (.ops [kO 10 (.mov (kT 6)),
 kO 11 (kA .neq (kT 10) (kC 0))])
 (.cond (kT 11) (.seq (.ops [kO 12 (.mov (kT 6)),
 kO 4 (.mov (.const kN)),
 kO 5 (.mov (kT 12))])
 .ret)
 .skip)))
 (.seq (.seq (.ops [kO 13 (.mov (kT 1)),
 kO 14 (.fldA 0 (kT 2)),
 kO 15 (.load1 (kT 14)),
 kO 16 (.call 32 [.tmp 13,.tmp 15]),
 kO 7 (.mov (kT 16))])
 (.seq (.ops [kO 17 (.mov (kT 7)),
 kO 18 (kA .neq (kT 17) (kC 0))])
 (.cond (kT 18) (.seq (.ops [kO 19 (.mov (kT 7)),
 kO 4 (.mov (.const kN)),
 kO 5 (.mov (kT 19))])
 .ret)
 .skip)))
 (.seq (.ops [kO 20 (.loadN 3 (kT 2)),
 kO 21 (.mov (kT 1)),
 kO 22 (.call 33 [.tmp 20,.tmp 21]),
 kO 4 (.mov (kT 22)),
 kO 5 (.mov (kC 0))])
 .ret))))
theorem enter11 (hl : xs.length ≤ 23) (w : wq E 23 none c11 (frameOf xs) h [] (leaveQ E [.tmp 4,.tmp 5] Q)) : CallP E 11 xs h Q :=
  CallP.enterQ (fn := Try.f11) (fn_get Try.func11) (code := Try.f11.body.get rfl) rfl rfl rfl (by kernel_rfl) rfl (fun _ => rfl) hl w
theorem can11 : callable E 11 = true := callable_get Try.func11 rfl rfl
def c12 : C := (.seq (.ops [kO 4 (.mov (.const (.bool kF)))])
 (.seq (.seq (.ops [kO 5 (.mov (kC 0))])
 (.block 0 (.loop (.seq (.seq (.ops [kO 6 (.mov (kT 5)),
 kO 7 (.mov (kT 0)),
 kO 8 (.lenS (kT 7)),
 kO 9 (kA .lss (kT 6) (kT 8))])
 (.cond (kT 9) .skip
 (.exit 0)))
 (.seq (.block 1 (.seq (.ops [kO 12 (.mov (kT 0)),
 kO 13 (.mov (kT 5)),
 kO 14 (.idxS 1 (kT 12) (kT 13)),
 kO 15 (.load1 (kT 14)),
 kO 16 (kA .lss (kT 15) (.const (.int .i64 (-100)))),
 kO 17 (.mov (kT 16)),
 ⟨some 18,.mov (kT 0),(some (17,kF))⟩,
 ⟨some 19,.mov (kT 5),(some (17,kF))⟩,
 ⟨some 20,.idxS 1 (kT 18) (kT 19),(some (17,kF))⟩,
 ⟨some 21,.load1 (kT 20),(some (17,kF))⟩,
 ⟨some 22,kA .gtr (kT 21) (kC 100),(some (17,kF))⟩,
 kO 23 (.pick (kT 17) (.const (.bool kE)) (kT 22))])
 (.cond (kT 23) (.seq (.ops [kO 4 (.mov (.const (.bool kF)))])
 .ret)
 .skip)))
 (.ops [kO 10 (.mov (kT 5)),
 kO 11 (kA .add (kT 10) (kC 1)),
 kO 5 (.mov (kT 11))]))))))
 (.seq (.ops [kO 24 (.mov (kT 0)),
 kO 25 (.lenS (kT 24)),
 kO 26 (.mov (kT 1)),
 kO 27 (kA .eql (kT 25) (kT 26)),
 kO 4 (.mov (kT 27))])
 .ret)))
theorem enter12 (hl : xs.length ≤ 28) (w : wq E 28 none c12 (frameOf xs) h [] (leaveQ E [.tmp 4] Q)) : CallP E 12 xs h Q :=
  CallP.enterQ (fn := Try.f12) (fn_get Try.func12) (code := Try.f12.body.get rfl) rfl rfl rfl (by kernel_rfl) rfl (fun _ => rfl) hl w
theorem can12 : callable E 12 = true := callable_get Try.func12 rfl rfl
def c13 : C := (.seq (.ops [kO 2 (.box 25 (kT 0)),
 kO 4 (.mov (.const kN)),
 kO 5 (.mov (kC 0))])
 (.seq (.seq (.ops [kO 8 (.loadN 3 (kT 2)),
 kO 9 (.call 8 [.tmp 8]),
 kO 6 (.mov (kT 9))])
 (.seq (.ops [kO 10 (.mov (kT 6)),
 kO 11 (kA .neq (kT 10) (kC 0))])
 (.cond (kT 11) (.seq (.ops [kO 12 (.mov (kT 6)),
 kO 4 (.mov (.const kN)),
 kO 5 (.mov (kT 12))])
 .ret)
 .skip)))
 (.seq (.seq (.ops [kO 13 (.mov (kT 1)),
 kO 14 (.fldA 2 (kT 2)),
 kO 15 (.load1 (kT 14)),
 kO 16 (.lenS (kT 15)),
 kO 17 (.call 32 [.tmp 13,.tmp 16]),
 kO 7 (.mov (kT 17))])
 (.seq (.ops [kO 18 (.mov (kT 7)),
 kO 19 (kA .neq (kT 18) (kC 0))])
 (.cond (kT 19) (.seq (.ops [kO 20 (.mov (kT 7)),
 kO 4 (.mov (.const kN)),
 kO 5 (.mov (kT 20))])
 .ret)
 .skip)))
 (.seq (.ops [kO 21 (.loadN 3 (kT 2)),
 kO 22 (.mov (kT 1)),
 kO 23 (.call 34 [.tmp 21,.tmp 22]),
 kO 4 (.mov (kT 23)),
 kO 5 (.mov (kC 0))])
 .ret))))
theorem enter13 (hl : xs.length ≤ 24) (w : wq E 24 none c13 (frameOf xs) h [] (leaveQ E [.tmp 4,.tmp 5] Q)) : CallP E 13 xs h Q :=
  CallP.enterQ (fn := Try.f13) (fn_get Try.func13) (code := Try.f13.body.get rfl) rfl rfl rfl (by kernel_rfl) rfl (fun _ => rfl) hl w
theorem can13 : callable E 13 = true := callable_get Try.func13 rfl rfl
theorem memo14 {h : Hp} {Q : Value → Hp → Prop} (q : Q (.bool true) h) : CallP E 14 [] h Q := CallP.memo rfl q
def c15 : C := (.seq (.ops [kO 2 (.box 25 (kT 0)),
 kO 4 (.mov (.const kN)),
 kO 5 (.mov (kC 0))])
 (.seq (.seq (.ops [kO 7 (.loadN 3 (kT 2)),
 kO 8 (.mov (kT 1)),
 kO 9 (.call 37 [.tmp 7,.tmp 8]),
 kO 6 (.mov (kT 9))])
 (.seq (.ops [kO 10 (.mov (kT 6)),
 kO 11 (kA .neq (kT 10) (kC 0))])
 (.cond (kT 11) (.seq (.ops [kO 12 (.mov (kT 6)),
 kO 4 (.mov (.const kN)),
 kO 5 (.mov (kT 12))])
 .ret)
 .skip)))
 (.seq (.ops [kO 13 (.loadN 3 (kT 2)),
 kO 14 (.mov (kT 1)),
 kO 15 (.call 38 [.tmp 13,.tmp 14]),
 kO 4 (.mov (kT 15)),
 kO 5 (.mov (kC 0))])
 .ret)))
theorem enter15 (hl : xs.length ≤ 16) (w : wq E 16 none c15 (frameOf xs) h [] (leaveQ E [.tmp 4,.tmp 5] Q)) : CallP E 15 xs h Q :=
  CallP.enterQ (fn := Try.f15) (fn_get Try.func15) (code := Try.f15.body.get rfl) rfl rfl rfl (by kernel_rfl) rfl (fun _ => rfl) hl w
theorem can15 : callable E 15 = true := callable_get Try.func15 rfl rfl
def c16 : C := (.seq (.ops [kO 2 (.box 25 (kT 0)),
 kO 4 (.mov (.const kN)),
 kO 5 (.mov (kC 0))])
 (.seq (.seq (.ops [kO 7 (.loadN 3 (kT 2)),
 kO 8 (.mov (kT 1)),
 kO 9 (.call 37 [.tmp 7,.tmp 8]),
 kO 6 (.mov (kT 9))])
 (.seq (.ops [kO 10 (.mov (kT 6)),
 kO 11 (kA .neq (kT 10) (kC 0))])
 (.cond (kT 11) (.seq (.ops [kO 12 (.mov (kT 6)),
 kO 4 (.mov (.const kN)),
 kO 5 (.mov (kT 12))])
 .ret)
 .skip)))
 (.seq (.ops [kO 13 (.loadN 3 (kT 2)),
 kO 14 (.mov (kT 1)),
 kO 15 (.call 39 [.tmp 13,.tmp 14]),
 kO 4 (.mov (kT 15)),
 kO 5 (.mov (kC 0))])
 .ret)))
theorem enter16 (hl : xs.length ≤ 16) (w : wq E 16 none c16 (frameOf xs) h [] (leaveQ E [.tmp 4,.tmp 5] Q)) : CallP E 16 xs h Q :=
  CallP.enterQ (fn := Try.f16) (fn_get Try.func16) (code := Try.f16.body.get rfl) rfl rfl rfl (by kernel_rfl) rfl (fun _ => rfl) hl w
theorem can16 : callable E 16 = true := callable_get Try.func16 rfl rfl
def c17 : C := (.seq (.ops [kO 2 (.box 25 (kT 0)),
 kO 4 (.mov (.const kN)),
 kO 5 (.mov (.const (.bool kF))),
 kO 6 (.mov (kC 0))])
 (.seq (.seq (.ops [kO 11 (.loadN 3 (kT 2)),
 kO 12 (.mov (kT 1)),
 kO 13 (.call 37 [.tmp 11,.tmp 12]),
 kO 7 (.mov (kT 13))])
 (.seq (.ops [kO 14 (.mov (kT 7)),
 kO 15 (kA .neq (kT 14) (kC 0))])
 (.cond (kT 15) (.seq (.ops [kO 16 (.mov (kT 7)),
 kO 4 (.mov (.const kN)),
 kO 5 (.mov (.const (.bool kF))),
 kO 6 (.mov (kT 16))])
 .ret)
 .skip)))
 (.seq (.ops [kO 17 (.loadN 3 (kT 2)),
 kO 18 (.mov (kT 1)),
 kO 19 (.call 40 [.tmp 17,.tmp 18]),
 kO 8 (.alloc 73 [.map none,.map none,.map none]),
 ⟨none,.store 3 (kT 8) (kT 19),none⟩])
 (.seq (.seq (.ops [kO 20 (.loadN 3 (kT 2)),
 kO 21 (.loadN 3 (kT 8)),
 kO 22 (.mov (kT 1)),
 kO 23 (.call 41 [.tmp 20,.tmp 21,.tmp 22]),
 kO 24 (kA .geq (kT 23) (kC 0))])
 (.cond (kT 24) (.seq (.ops [kO 4 (.mov (.const kN)),
 kO 5 (.mov (.const (.bool kF))),
 kO 6 (.mov (kC 0))])
 .ret)
 .skip))
 (.seq (.ops [kO 25 (.fldA 0 (kT 2)),
 kO 26 (.load1 (kT 25)),
 kO 27 (.make 3 [kZ] 8 (kT 26) (kT 26)),
 kO 9 (.mov (kT 27))])
 (.seq (.seq (.ops [kO 28 (.mov (kT 9)),
 kO 29 (.lenS (kT 28)),
 kO 30 (.mov (kC 0))])
 (.block 0 (.loop (.seq (.ops [kO 31 (kA .lss (kT 30) (kT 29))])
 (.seq (.cond (kT 31) .skip
 (.exit 0))
 (.seq (.block 1 (.seq (.ops [kO 32 (.mov (kT 30)),
 kO 10 (.mov (kT 32))])
 (.ops [kO 33 (.mov (kT 9)),
 kO 34 (.mov (kT 10)),
 kO 35 (.fldA 0 (kT 8)),
 kO 36 (.load1 (kT 35)),
 kO 37 (.mov (kT 10)),
 kO 38 (.raw (.lookup 71 (kT 36) (kT 37) kF) 3),
 kO 39 (.idxS 1 (kT 33) (kT 34)),
 ⟨none,.store 1 (kT 39) (kT 38),none⟩])))
 (.ops [kO 40 (kA .add (kT 30) (kC 1)),
 kO 30 (.mov (kT 40))])))))))
 (.seq (.ops [kO 41 (.mov (kT 9)),
 kO 4 (.mov (kT 41)),
 kO 5 (.mov (.const (.bool kE))),
 kO 6 (.mov (kC 0))])
 .ret)))))))
theorem enter17 (hl : xs.length ≤ 42) (w : wq E 42 none c17 (frameOf xs) h [] (leaveQ E [.tmp 4,.tmp 5,.tmp 6] Q)) : CallP E 17 xs h Q :=
  CallP.enterQ (fn := Try.f17) (fn_get Try.func17) (code := Try.f17.body.get rfl) rfl rfl rfl (by kernel_rfl) rfl (fun _ => rfl) hl w
theorem can17 : callable E 17 = true := callable_get Try.func17 rfl rfl
def c18 : C := (.seq (.ops [kO 2 (.box 25 (kT 0)),
 kO 4 (.mov (.const kN)),
 kO 5 (.mov (.const (.bool kF))),
 kO 6 (.mov (kC 0))])
 (.seq (.seq (.ops [kO 10 (.loadN 3 (kT 2)),
 kO 11 (.mov (kT 1)),
 kO 12 (.call 37 [.tmp 10,.tmp 11]),
 kO 7 (.mov (kT 12))])
 (.seq (.ops [kO 13 (.mov (kT 7)),
 kO 14 (kA .neq (kT 13) (kC 0))])
 (.cond (kT 14) (.seq (.ops [kO 15 (.mov (kT 7)),
 kO 4 (.mov (.const kN)),
 kO 5 (.mov (.const (.bool kF))),
 kO 6 (.mov (kT 15))])
 .ret)
 .skip)))
 (.seq (.ops [kO 16 (.loadN 3 (kT 2)),
 kO 17 (.mov (kT 1)),
 kO 18 (.call 40 [.tmp 16,.tmp 17]),
 kO 8 (.alloc 73 [.map none,.map none,.map none]),
 ⟨none,.store 3 (kT 8) (kT 18),none⟩])
 (.seq (.ops [kO 19 (.loadN 3 (kT 2)),
 kO 20 (.loadN 3 (kT 8)),
 kO 21 (.mov (kT 1)),
 kO 22 (.call 41 [.tmp 19,.tmp 20,.tmp 21]),
 kO 9 (.mov (kT 22))])
 (.seq (.seq (.ops [kO 23 (.mov (kT 9)),
 kO 24 (kA .lss (kT 23) (kC 0))])
 (.cond (kT 24) (.seq (.ops [kO 4 (.mov (.const kN)),
 kO 5 (.mov (.const (.bool kF))),
 kO 6 (.mov (kC 0))])
 .ret)
 .skip))
 (.seq (.ops [kO 25 (.loadN 3 (kT 8)),
 kO 26 (.fldA 1 (kT 2)),
 kO 27 (.load1 (kT 26)),
 kO 28 (.mov (kT 9)),
 kO 29 (.idxS 2 (kT 27) (kT 28)),
 kO 30 (.loadN 2 (kT 29)),
 kO 31 (.call 42 [.tmp 25,.tmp 30]),
 kO 4 (.mov (kT 31)),
 kO 5 (.mov (.const (.bool kE))),
 kO 6 (.mov (kC 0))])
 .ret))))))
theorem enter18 (hl : xs.length ≤ 32) (w : wq E 32 none c18 (frameOf xs) h [] (leaveQ E [.tmp 4,.tmp 5,.tmp 6] Q)) : CallP E 18 xs h Q :=
  CallP.enterQ (fn := Try.f18) (fn_get Try.func18) (code := Try.f18.body.get rfl) rfl rfl rfl (by kernel_rfl) rfl (fun _ => rfl) hl w
theorem can18 : callable E 18 = true := callable_get Try.func18 rfl rfl
def c19 : C := (.seq (.ops [kO 3 (.box 25 (kT 0)),
 kO 6 (.mov (kC 0)),
 kO 7 (.mov (.const (.bool kF))),
 kO 8 (.mov (kC 0))])
 (.seq (.seq (.ops [kO 15 (.loadN 3 (kT 3)),
 kO 16 (.mov (kT 1)),
 kO 17 (.call 37 [.tmp 15,.tmp 16]),
 kO 9 (.mov (kT 17))])
 (.seq (.ops [kO 18 (.mov (kT 9)),
 kO 19 (kA .neq (kT 18) (kC 0))])
 (.cond (kT 19) (.seq (.ops [kO 20 (.mov (kT 9)),
 kO 6 (.mov (kC 0)),
 kO 7 (.mov (.const (.bool kF))),
 kO 8 (.mov (kT 20))])
 .ret)
 .skip)))
 (.seq (.seq (.ops [kO 21 (.mov (kT 2)),
 kO 22 (.lenS (kT 21)),
 kO 23 (kA .lss (kT 22) (kC 3)),
 kO 24 (.mov (kT 23)),
 ⟨some 25,.mov (kT 2),(some (24,kF))⟩,
 ⟨some 26,.lenS (kT 25),(some (24,kF))⟩,
 ⟨some 27,.fldA 0 (kT 3),(some (24,kF))⟩,
 ⟨some 28,.load1 (kT 27),(some (24,kF))⟩,
 ⟨some 29,kA .gtr (kT 26) (kT 28),(some (24,kF))⟩,
 kO 30 (.pick (kT 24) (.const (.bool kE)) (kT 29))])
 (.cond (kT 30) (.seq (.ops [kO 6 (.mov (kC 0)),
 kO 7 (.mov (.const (.bool kF))),
 kO 8 (.mov (kC 0))])
 .ret)
 .skip))
 (.seq (.ops [kO 10 (.mov (kC 0))])
 (.seq (.seq (.ops [kO 31 (.mov (kT 2)),
 kO 32 (.lenS (kT 31)),
 kO 33 (.mov (kC 0))])
 (.block 0 (.loop (.seq (.ops [kO 34 (kA .lss (kT 33) (kT 32))])
 (.seq (.cond (kT 34) .skip
 (.exit 0))
 (.seq (.block 1 (.seq (.ops [kO 35 (.mov (kT 33)),
 kO 36 (.idxS 1 (kT 31) (kT 33)),
 kO 37 (.load1 (kT 36)),
 kO 11 (.mov (kT 35)),
 kO 12 (.mov (kT 37))])
 (.seq (.ops [kO 39 (.loadN 3 (kT 3)),
 kO 40 (.mov (kT 1)),
 kO 41 (.mov (kT 12)),
 kO 42 (.mov (kT 2)),
 kO 43 (.mov (kT 11)),
 kO 44 (kA .add (kT 43) (kC 1)),
 kO 45 (.mov (kT 2)),
 kO 46 (.lenS (kT 45)),
 kO 47 (kA .rem (kT 44) (kT 46)),
 kO 48 (.idxS 1 (kT 42) (kT 47)),
 kO 49 (.load1 (kT 48)),
 kO 50 (.call 43 [.tmp 39,.tmp 40,.tmp 41,.tmp 49]),
 kO 38 (.mov (kT 50)),
 kO 51 (.ext (kT 38) 0),
 kO 52 (.ext (kT 38) 1),
 kO 13 (.mov (kT 51)),
 kO 14 (.mov (kT 52))])
 (.seq (.seq (.ops [kO 53 (.mov (kT 14)),
 kO 54 (.not (kT 53)),
 kO 55 (.mov (kT 54)),
 ⟨some 56,.mov (kT 2),(some (55,kF))⟩,
 ⟨some 57,.mov (kT 11),(some (55,kF))⟩,
 ⟨some 58,.cutS 1 (kT 56) none (some (kT 57)) none,(some (55,kF))⟩,
 ⟨some 59,.mov (kT 12),(some (55,kF))⟩,
 ⟨some 60,.call 44 [.tmp 58,.tmp 59],(some (55,kF))⟩,
 kO 61 (.pick (kT 55) (.const (.bool kE)) (kT 60))])
 (.cond (kT 61) (.seq (.ops [kO 6 (.mov (kC 0)),
 kO 7 (.mov (.const (.bool kF))),
 kO 8 (.mov (kC 0))])
 .ret)
 .skip))
 (.ops [kO 62 (.mov (kT 10)),
 kO 63 (.mov (kT 13)),
 kO 64 (kA .add (kT 62) (kT 63)),
 kO 10 (.mov (kT 64))])))))
 (.ops [kO 65 (kA .add (kT 33) (kC 1)),
 kO 33 (.mov (kT 65))])))))))
 (.seq (.ops [kO 66 (.mov (kT 10)),
 kO 6 (.mov (kT 66)),
 kO 7 (.mov (.const (.bool kE))),
 kO 8 (.mov (kC 0))])
 .ret))))))
theorem enter19 (hl : xs.length ≤ 67) (w : wq E 67 none c19 (frameOf xs) h [] (leaveQ E [.tmp 6,.tmp 7,.tmp 8] Q)) : CallP E 19 xs h Q :=
  CallP.enterQ (fn := Try.f19) (fn_get Try.func19) (code := Try.f19.body.get rfl) rfl rfl rfl (by kernel_rfl) rfl (fun _ => rfl) hl w
theorem can19 : callable E 19 = true := callable_get Try.func19 rfl rfl
def c20 : C := (.seq (.ops [kO 2 (.box 25 (kT 0)),
 kO 4 (.alloc 45 [kN,kN,kN]),
 kO 5 (.mov (kC 0))])
 (.seq (.seq (.ops [kO 10 (.loadN 3 (kT 2)),
 kO 11 (.mov (kT 1)),
 kO 12 (.call 37 [.tmp 10,.tmp 11]),
 kO 6 (.mov (kT 12))])
 (.seq (.ops [kO 13 (.mov (kT 6)),
 kO 14 (kA .neq (kT 13) (kC 0))])
 (.cond (kT 14) (.seq (.ops [kO 15 (.aggr [kN,kN,kN] []),
 kO 16 (.mov (kT 6)),
 ⟨none,.store 3 (kT 4) (kT 15),none⟩,
 kO 5 (.mov (kT 16))])
 .ret)
 .skip)))
 (.seq (.ops [kO 7 (.alloc 45 [kN,kN,kN])])
 (.seq (.seq (.ops [kO 17 (.loadN 3 (kT 2)),
 kO 18 (.mov (kT 1)),
 kO 19 (.call 45 [.tmp 17,.tmp 18]),
 kO 20 (.mov (kC 0))])
 (.block 0 (.loop (.seq (.ops [kO 21 (kA .lss (kT 20) (kC 3))])
 (.seq (.cond (kT 21) .skip
 (.exit 0))
 (.seq (.block 1 (.seq (.ops [kO 22 (.mov (kT 20)),
 kO 23 (.ix1 3 (kT 19) (kT 20)),
 kO 8 (.mov (kT 22)),
 kO 9 (.mov (kT 23))])
 (.ops [kO 24 (.mov (kT 8)),
 kO 25 (.mov (kT 9)),
 kO 26 (.call 46 [.tmp 25]),
 kO 27 (.idxA 3 1 (kT 7) (kT 24)),
 ⟨none,.store 1 (kT 27) (kT 26),none⟩])))
 (.ops [kO 28 (kA .add (kT 20) (kC 1)),
 kO 20 (.mov (kT 28))])))))))
 (.seq (.ops [kO 29 (.loadN 3 (kT 7)),
 ⟨none,.store 3 (kT 4) (kT 29),none⟩,
 kO 5 (.mov (kC 0))])
 .ret)))))
theorem enter20 (hl : xs.length ≤ 30) (w : wq E 30 none c20 (frameOf xs) h [] (leaveQ E [.cell 4 45,.tmp 5] Q)) : CallP E 20 xs h Q :=
  CallP.enterQ (fn := Try.f20) (fn_get Try.func20) (code := Try.f20.body.get rfl) rfl rfl rfl (by kernel_rfl) rfl (fun _ => rfl) hl w
theorem can20 : callable E 20 = true := callable_get Try.func20 rfl rfl
def c21 : C := (.seq (.ops [kO 2 (.box 25 (kT 0)),
 kO 4 (.mov (.const kN)),
 kO 5 (.mov (kC 0))])
 (.seq (.seq (.ops [kO 7 (.loadN 3 (kT 2)),
 kO 8 (.mov (kT 1)),
 kO 9 (.call 37 [.tmp 7,.tmp 8]),
 kO 6 (.mov (kT 9))])
 (.seq (.ops [kO 10 (.mov (kT 6)),
 kO 11 (kA .neq (kT 10) (kC 0))])
 (.cond (kT 11) (.seq (.ops [kO 12 (.mov (kT 6)),
 kO 4 (.mov (.const kN)),
 kO 5 (.mov (kT 12))])
 .ret)
 .skip)))
 (.seq (.ops [kO 13 (.loadN 3 (kT 2)),
 kO 14 (.mov (kT 1)),
 kO 15 (.call 47 [.tmp 13,.tmp 14]),
 kO 16 (.call 46 [.tmp 15]),
 kO 4 (.mov (kT 16)),
 kO 5 (.mov (kC 0))])
 .ret)))
theorem enter21 (hl : xs.length ≤ 17) (w : wq E 17 none c21 (frameOf xs) h [] (leaveQ E [.tmp 4,.tmp 5] Q)) : CallP E 21 xs h Q :=
  CallP.enterQ (fn := Try.f21) (fn_get Try.func21) (code := Try.f21.body.get rfl) rfl rfl rfl (by kernel_rfl) rfl (fun _ => rfl) hl w
theorem can21 : callable E 21 = true := callable_get Try.func21 rfl rfl
def c22 : C := (.seq (.ops [kO 2 (.box 25 (kT 0)),
 kO 4 (.alloc 51 [kZ,kZ,kZ,kZ,kZ,kZ,kZ,kZ]),
 kO 5 (.mov (kC 0))])
 (.seq (.seq (.ops [kO 12 (.loadN 3 (kT 2)),
 kO 13 (.mov (kT 1)),
 kO 14 (.call 37 [.tmp 12,.tmp 13]),
 kO 6 (.mov (kT 14))])
 (.seq (.ops [kO 15 (.mov (kT 6)),
 kO 16 (kA .neq (kT 15) (kC 0))])
 (.cond (kT 16) (.seq (.ops [kO 17 (.aggr [kZ,kZ,kZ,kZ,kZ,kZ,kZ,kZ] []),
 kO 18 (.mov (kT 6)),
 ⟨none,.store 8 (kT 4) (kT 17),none⟩,
 kO 5 (.mov (kT 18))])
 .ret)
 .skip)))
 (.seq (.ops [kO 19 (.loadN 3 (kT 2)),
 kO 20 (.mov (kT 1)),
 kO 21 (.call 45 [.tmp 19,.tmp 20]),
 kO 7 (.alloc 80 [kN,kN,kN]),
 ⟨none,.store 3 (kT 7) (kT 21),none⟩])
 (.seq (.ops [kO 8 (.alloc 51 [kZ,kZ,kZ,kZ,kZ,kZ,kZ,kZ])])
 (.seq (.seq (.draw [kO 22 (.mov (kT 1)),
 kO 23 (.call 48 [.tmp 22]),
 kO 24 (.idxA 3 1 (kT 7) (kC 0)),
 kO 25 (.load1 (kT 24)),
 kO 26 (.idxA 3 1 (kT 7) (kC 1)),
 kO 27 (.load1 (kT 26)),
 kO 28 (.idxA 3 1 (kT 7) (kC 2)),
 kO 29 (.load1 (kT 28)),
 kO 30 (.aggr [kN,kN,kN,kN] [(0,1,(kT 23)),(1,1,(kT 25)),(2,1,(kT 27)),(3,1,(kT 29))]),
 kO 31 (.mov (kC 0))]
 [⟨kF,kF,fL4,fL4⟩,
 ⟨kE,kF,fL4,fL5⟩,
 ⟨kF,kE,fL4,fL5⟩,
 ⟨kF,kE,fL4,fL5⟩,
 ⟨kF,kE,fL4,fL5⟩,
 ⟨kF,kE,fL4,fL5⟩,
 ⟨kF,kE,fL4,fL5⟩,
 ⟨kF,kE,fL4,fL5⟩,
 ⟨kF,kF,fL5,fL5⟩,
 ⟨kF,kE,fL4,fL5⟩])
 (.block 0 (.loop (.seq (.ops [kO 32 (kA .lss (kT 31) (kC 4))])
 (.seq (.cond (kT 32) .skip
 (.exit 0))
 (.seq (.block 1 (.seq (.ops [kO 33 (.mov (kT 31)),
 kO 34 (.ix1 4 (kT 30) (kT 31)),
 kO 9 (.mov (kT 33)),
 kO 10 (.mov (kT 34))])
 (.seq (.ops [kO 35 (.mov (kT 10)),
 kO 36 (.mov (kT 10)),
 kO 37 (.call 49 [.tmp 35,.tmp 36]),
 kO 11 (.alloc 86 [kZ,kZ]),
 ⟨none,.store 2 (kT 11) (kT 37),none⟩])
 (.ops [kO 38 (.mov (kT 9)),
 kO 39 (.fldA 0 (kT 11)),
 kO 40 (.load1 (kT 39)),
 kO 41 (.fldA 1 (kT 11)),
 kO 42 (.load1 (kT 41)),
 kO 43 (.aggr [kZ,kZ] [(0,1,(kT 40)),(1,1,(kT 42))]),
 kO 44 (.idxA 4 2 (kT 8) (kT 38)),
 ⟨none,.store 2 (kT 44) (kT 43),none⟩]))))
 (.ops [kO 45 (kA .add (kT 31) (kC 1)),
 kO 31 (.mov (kT 45))])))))))
 (.seq (.ops [kO 46 (.loadN 8 (kT 8)),
 ⟨none,.store 8 (kT 4) (kT 46),none⟩,
 kO 5 (.mov (kC 0))])
 .ret))))))
theorem enter22 (hl : xs.length ≤ 47) (w : wq E 47 none c22 (frameOf xs) h [] (leaveQ E [.cell 4 51,.tmp 5] Q)) : CallP E 22 xs h Q :=
  CallP.enterQ (fn := Try.f22) (fn_get Try.func22) (code := Try.f22.body.get rfl) rfl rfl rfl (by kernel_rfl) rfl (fun _ => rfl) hl w
theorem can22 : callable E 22 = true := callable_get Try.func22 rfl rfl
def c23 : C := (.seq (.ops [kO 2 (.box 25 (kT 0)),
 kO 4 (.mov (.const (.bool kF))),
 kO 5 (.mov (kC 0))])
 (.seq (.seq (.ops [kO 8 (.loadN 3 (kT 2)),
 kO 9 (.mov (kT 1)),
 kO 10 (.call 37 [.tmp 8,.tmp 9]),
 kO 6 (.mov (kT 10))])
 (.seq (.ops [kO 11 (.mov (kT 6)),
 kO 12 (kA .neq (kT 11) (kC 0))])
 (.cond (kT 12) (.seq (.ops [kO 13 (.mov (kT 6)),
 kO 4 (.mov (.const (.bool kF))),
 kO 5 (.mov (kT 13))])
 .ret)
 .skip)))
 (.seq (.ops [kO 7 (.mov (.func 50))])
 (.seq (.ops [kO 14 (.loadN 3 (kT 2)),
 kO 15 (.mov (kT 1)),
 kO 16 (.call 38 [.tmp 14,.tmp 15]),
 kO 17 (.mov (kT 7)),
 kO 18 (.call 51 [.tmp 16,.tmp 17]),
 kO 19 (.not (kT 18)),
 kO 20 (.mov (kT 19)),
 ⟨some 21,.loadN 3 (kT 2),(some (20,kE))⟩,
 ⟨some 22,.mov (kT 1),(some (20,kE))⟩,
 ⟨some 23,.call 39 [.tmp 21,.tmp 22],(some (20,kE))⟩,
 ⟨some 24,.mov (kT 7),(some (20,kE))⟩,
 ⟨some 25,.call 51 [.tmp 23,.tmp 24],(some (20,kE))⟩,
 ⟨some 26,.not (kT 25),(some (20,kE))⟩,
 kO 27 (.pick (kT 20) (kT 26) (.const (.bool kF))),
 kO 4 (.mov (kT 27)),
 kO 5 (.mov (kC 0))])
 .ret))))
theorem enter23 (hl : xs.length ≤ 28) (w : wq E 28 none c23 (frameOf xs) h [] (leaveQ E [.tmp 4,.tmp 5] Q)) : CallP E 23 xs h Q :=
  CallP.enterQ (fn := Try.f23) (fn_get Try.func23) (code := Try.f23.body.get rfl) rfl rfl rfl (by kernel_rfl) rfl (fun _ => rfl) hl w
theorem can23 : callable E 23 = true := callable_get Try.func23 rfl rfl
def c24 : C := (.seq (.ops [kO 3 (.box 27 (kT 0)),
 kO 6 (.mov (kC 0))])
 (.seq (.seq (.ops [kO 7 (.mov (kC 0))])
 (.block 0 (.loop (.seq (.seq (.ops [kO 8 (.mov (kT 7)),
 kO 9 (.fldA 1 (kT 3)),
 kO 10 (.load1 (kT 9)),
 kO 11 (.lenS (kT 10)),
 kO 12 (kA .lss (kT 8) (kT 11))])
 (.cond (kT 12) .skip
 (.exit 0)))
 (.seq (.block 1 (.seq (.ops [kO 15 (.fldA 1 (kT 3)),
 kO 16 (.load1 (kT 15)),
 kO 17 (.mov (kT 7)),
 kO 18 (.idxS 2 (kT 16) (kT 17)),
 kO 19 (.loadN 2 (kT 18)),
 kO 20 (.mov (kT 1)),
 kO 21 (.mov (kT 2)),
 kO 22 (.raw (.call ⟨.builtin .min,⟨[.tmp 20,.tmp 21]⟩,⟨[3,3]⟩⟩) 3),
 kO 23 (.mov (kT 1)),
 kO 24 (.mov (kT 2)),
 kO 25 (.raw (.call ⟨.builtin .max,⟨[.tmp 23,.tmp 24]⟩,⟨[3,3]⟩⟩) 3),
 kO 26 (.aggr [kZ,kZ] [(0,1,(kT 22)),(1,1,(kT 25))]),
 kO 27 (.raw (.binOp .eql 57 (kT 19) (kT 26) 57) 4)])
 (.cond (kT 27) (.seq (.ops [kO 28 (.mov (kT 7)),
 kO 6 (.mov (kT 28))])
 .ret)
 .skip)))
 (.ops [kO 13 (.mov (kT 7)),
 kO 14 (kA .add (kT 13) (kC 1)),
 kO 7 (.mov (kT 14))]))))))
 (.seq (.ops [kO 6 (.mov (.const (.int .i64 (-1))))])
 .ret)))
theorem enter24 (hl : xs.length ≤ 29) (w : wq E 29 none c24 (frameOf xs) h [] (leaveQ E [.tmp 6] Q)) : CallP E 24 xs h Q :=
  CallP.enterQ (fn := Try.f24) (fn_get Try.func24) (code := Try.f24.body.get rfl) rfl rfl rfl (by kernel_rfl) rfl (fun _ => rfl) hl w
theorem can24 : callable E 24 = true := callable_get Try.func24 rfl rfl
def c25 : C := (.seq (.ops [kO 2 (.box 58 (kT 0)),
 kO 3 (.box 58 (kT 1)),
 kO 4 (.mov (.const (.bool kF)))])
 (.seq (.seq (.ops [kO 5 (.mov (kC 0))])
 (.block 0 (.loop (.seq (.seq (.ops [kO 6 (.mov (kT 5)),
 kO 7 (kA .lss (kT 6) (kC 3))])
 (.cond (kT 7) .skip
 (.exit 0)))
 (.seq (.block 1 (.seq (.ops [kO 10 (.mov (kT 5)),
 kO 11 (.idxA 3 1 (kT 2) (kT 10)),
 kO 12 (.load1 (kT 11)),
 kO 13 (.mov (kT 5)),
 kO 14 (.idxA 3 1 (kT 3) (kT 13)),
 kO 15 (.load1 (kT 14)),
 kO 16 (kA .neq (kT 12) (kT 15))])
 (.cond (kT 16) (.seq (.ops [kO 17 (.mov (kT 5)),
 kO 18 (.idxA 3 1 (kT 2) (kT 17)),
 kO 19 (.load1 (kT 18)),
 kO 20 (.mov (kT 5)),
 kO 21 (.idxA 3 1 (kT 3) (kT 20)),
 kO 22 (.load1 (kT 21)),
 kO 23 (kA .lss (kT 19) (kT 22)),
 kO 4 (.mov (kT 23))])
 .ret)
 .skip)))
 (.ops [kO 8 (.mov (kT 5)),
 kO 9 (kA .add (kT 8) (kC 1)),
 kO 5 (.mov (kT 9))]))))))
 (.seq (.ops [kO 4 (.mov (.const (.bool kF)))])
 .ret)))
theorem enter25 (hl : xs.length ≤ 24) (w : wq E 24 none c25 (frameOf xs) h [] (leaveQ E [.tmp 4] Q)) : CallP E 25 xs h Q :=
  CallP.enterQ (fn := Try.f25) (fn_get Try.func25) (code := Try.f25.body.get rfl) rfl rfl rfl (by kernel_rfl) rfl (fun _ => rfl) hl w
theorem can25 : callable E 25 = true := callable_get Try.func25 rfl rfl
def c26 : C := (.seq (.ops [kO 1 (.box 25 (kT 0)),
 kO 2 (.mov (.const (.bool kF)))])
 (.seq (.seq (.ops [kO 5 (.fldA 1 (kT 1)),
 kO 6 (.load1 (kT 5)),
 kO 7 (.lenS (kT 6)),
 kO 8 (.mov (kC 0))])
 (.block 0 (.loop (.seq (.ops [kO 9 (kA .lss (kT 8) (kT 7))])
 (.seq (.cond (kT 9) .skip
 (.exit 0))
 (.seq (.block 1 (.seq (.ops [kO 10 (.mov (kT 8)),
 kO 11 (.idxS 2 (kT 6) (kT 8)),
 kO 12 (.loadN 2 (kT 11)),
 kO 4 (.alloc 57 [kZ,kZ]),
 kO 3 (.mov (kT 10)),
 ⟨none,.store 2 (kT 4) (kT 12),none⟩])
 (.seq (.seq (.ops [kO 13 (.idxA 2 1 (kT 4) (kC 0)),
 kO 14 (.load1 (kT 13)),
 kO 15 (kA .lss (kT 14) (kC 0)),
 kO 16 (.mov (kT 15)),
 ⟨some 17,.idxA 2 1 (kT 4) (kC 0),(some (16,kF))⟩,
 ⟨some 18,.load1 (kT 17),(some (16,kF))⟩,
 ⟨some 19,.idxA 2 1 (kT 4) (kC 1),(some (16,kF))⟩,
 ⟨some 20,.load1 (kT 19),(some (16,kF))⟩,
 ⟨some 21,kA .geq (kT 18) (kT 20),(some (16,kF))⟩,
 kO 22 (.pick (kT 16) (.const (.bool kE)) (kT 21)),
 kO 23 (.mov (kT 22)),
 ⟨some 24,.idxA 2 1 (kT 4) (kC 1),(some (23,kF))⟩,
 ⟨some 25,.load1 (kT 24),(some (23,kF))⟩,
 ⟨some 26,.fldA 0 (kT 1),(some (23,kF))⟩,
 ⟨some 27,.load1 (kT 26),(some (23,kF))⟩,
 ⟨some 28,kA .geq (kT 25) (kT 27),(some (23,kF))⟩,
 kO 29 (.pick (kT 23) (.const (.bool kE)) (kT 28))])
 (.cond (kT 29) (.seq (.ops [kO 2 (.mov (.const (.bool kF)))])
 .ret)
 .skip))
 (.seq (.ops [kO 30 (.mov (kT 3)),
 kO 31 (kA .gtr (kT 30) (kC 0)),
 kO 32 (.mov (kT 31)),
 ⟨some 33,.fldA 1 (kT 1),(some (32,kE))⟩,
 ⟨some 34,.load1 (kT 33),(some (32,kE))⟩,
 ⟨some 35,.mov (kT 3),(some (32,kE))⟩,
 ⟨some 36,kA .sub (kT 35) (kC 1),(some (32,kE))⟩,
 ⟨some 37,.idxS 2 (kT 34) (kT 36),(some (32,kE))⟩,
 ⟨some 38,.cutA 2 1 (kT 37) none none none,(some (32,kE))⟩,
 ⟨some 39,.cutA 2 1 (kT 4) none none none,(some (32,kE))⟩,
 ⟨some 40,.call 52 [.tmp 38,.tmp 39],(some (32,kE))⟩,
 ⟨some 41,kA .geq (kT 40) (kC 0),(some (32,kE))⟩,
 kO 42 (.pick (kT 32) (kT 41) (.const (.bool kF)))])
 (.cond (kT 42) (.seq (.ops [kO 2 (.mov (.const (.bool kF)))])
 .ret)
 .skip)))))
 (.ops [kO 43 (kA .add (kT 8) (kC 1)),
 kO 8 (.mov (kT 43))])))))))
 (.seq (.ops [kO 44 (.fldA 1 (kT 1)),
 kO 45 (.load1 (kT 44)),
 kO 46 (.lenS (kT 45)),
 kO 47 (kA .leq (kT 46) (kC 10)),
 kO 2 (.mov (kT 47))])
 .ret)))
theorem enter26 (hl : xs.length ≤ 48) (w : wq E 48 none c26 (frameOf xs) h [] (leaveQ E [.tmp 2] Q)) : CallP E 26 xs h Q :=
  CallP.enterQ (fn := Try.f26) (fn_get Try.func26) (code := Try.f26.body.get rfl) rfl rfl rfl (by kernel_rfl) rfl (fun _ => rfl) hl w
theorem can26 : callable E 26 = true := callable_get Try.func26 rfl rfl
def c27 : C := (.seq (.ops [kO 1 (.box 25 (kT 0)),
 kO 2 (.mov (.const (.bool kF)))])
 (.seq (.seq (.ops [kO 11 (.fldA 2 (kT 1)),
 kO 12 (.load1 (kT 11)),
 kO 13 (.lenS (kT 12)),
 kO 14 (.mov (kC 0))])
 (.block 0 (.loop (.seq (.ops [kO 15 (kA .lss (kT 14) (kT 13))])
 (.seq (.cond (kT 15) .skip
 (.exit 0))
 (.seq (.block 1 (.seq (.ops [kO 16 (.mov (kT 14)),
 kO 17 (.idxS 3 (kT 12) (kT 14)),
 kO 18 (.loadN 3 (kT 17)),
 kO 4 (.alloc 58 [kZ,kZ,kZ]),
 kO 3 (.mov (kT 16)),
 ⟨none,.store 3 (kT 4) (kT 18),none⟩])
 (.seq (.seq (.ops [kO 19 (.mov (kT 3)),
 kO 20 (kA .gtr (kT 19) (kC 0)),
 kO 21 (.mov (kT 20)),
 ⟨some 22,.fldA 2 (kT 1),(some (21,kE))⟩,
 ⟨some 23,.load1 (kT 22),(some (21,kE))⟩,
 ⟨some 24,.mov (kT 3),(some (21,kE))⟩,
 ⟨some 25,kA .sub (kT 24) (kC 1),(some (21,kE))⟩,
 ⟨some 26,.idxS 3 (kT 23) (kT 25),(some (21,kE))⟩,
 ⟨some 27,.cutA 3 1 (kT 26) none none none,(some (21,kE))⟩,
 ⟨some 28,.cutA 3 1 (kT 4) none none none,(some (21,kE))⟩,
 ⟨some 29,.call 52 [.tmp 27,.tmp 28],(some (21,kE))⟩,
 ⟨some 30,kA .geq (kT 29) (kC 0),(some (21,kE))⟩,
 kO 31 (.pick (kT 21) (kT 30) (.const (.bool kF)))])
 (.cond (kT 31) (.seq (.ops [kO 2 (.mov (.const (.bool kF)))])
 .ret)
 .skip))
 (.seq (.ops [kO 33 (.loadN 3 (kT 1)),
 kO 34 (.idxA 3 1 (kT 4) (kC 0)),
 kO 35 (.load1 (kT 34)),
 kO 36 (.idxA 3 1 (kT 4) (kC 1)),
 kO 37 (.load1 (kT 36)),
 kO 38 (.call 53 [.tmp 33,.tmp 35,.tmp 37]),
 kO 32 (.mov (kT 38)),
 kO 39 (.ext (kT 32) 0),
 kO 40 (.ext (kT 32) 1),
 kO 5 (.mov (kT 39)),
 kO 6 (.mov (kT 40))])
 (.seq (.ops [kO 42 (.loadN 3 (kT 1)),
 kO 43 (.idxA 3 1 (kT 4) (kC 1)),
 kO 44 (.load1 (kT 43)),
 kO 45 (.idxA 3 1 (kT 4) (kC 2)),
 kO 46 (.load1 (kT 45)),
 kO 47 (.call 53 [.tmp 42,.tmp 44,.tmp 46]),
 kO 41 (.mov (kT 47)),
 kO 48 (.ext (kT 41) 0),
 kO 49 (.ext (kT 41) 1),
 kO 7 (.mov (kT 48)),
 kO 8 (.mov (kT 49))])
 (.seq (.ops [kO 51 (.loadN 3 (kT 1)),
 kO 52 (.idxA 3 1 (kT 4) (kC 0)),
 kO 53 (.load1 (kT 52)),
 kO 54 (.idxA 3 1 (kT 4) (kC 2)),
 kO 55 (.load1 (kT 54)),
 kO 56 (.call 53 [.tmp 51,.tmp 53,.tmp 55]),
 kO 50 (.mov (kT 56)),
 kO 57 (.ext (kT 50) 0),
 kO 58 (.ext (kT 50) 1),
 kO 9 (.mov (kT 57)),
 kO 10 (.mov (kT 58))])
 (.seq (.ops [kO 59 (.mov (kT 6)),
 kO 60 (.not (kT 59)),
 kO 61 (.mov (kT 60)),
 ⟨some 62,.mov (kT 8),(some (61,kF))⟩,
 ⟨some 63,.not (kT 62),(some (61,kF))⟩,
 kO 64 (.pick (kT 61) (.const (.bool kE)) (kT 63)),
 kO 65 (.mov (kT 64)),
 ⟨some 66,.mov (kT 10),(some (65,kF))⟩,
 ⟨some 67,.not (kT 66),(some (65,kF))⟩,
 kO 68 (.pick (kT 65) (.const (.bool kE)) (kT 67))])
 (.cond (kT 68) (.seq (.ops [kO 2 (.mov (.const (.bool kF)))])
 .ret)
 .skip))))))))
 (.ops [kO 69 (kA .add (kT 14) (kC 1)),
 kO 14 (.mov (kT 69))])))))))
 (.seq (.ops [kO 70 (.fldA 2 (kT 1)),
 kO 71 (.load1 (kT 70)),
 kO 72 (.lenS (kT 71)),
 kO 73 (kA .leq (kT 72) (kC 6)),
 kO 2 (.mov (kT 73))])
 .ret)))
theorem enter27 (hl : xs.length ≤ 74) (w : wq E 74 none c27 (frameOf xs) h [] (leaveQ E [.tmp 2] Q)) : CallP E 27 xs h Q :=
  CallP.enterQ (fn := Try.f27) (fn_get Try.func27) (code := Try.f27.body.get rfl) rfl rfl rfl (by kernel_rfl) rfl (fun _ => rfl) hl w
theorem can27 : callable E 27 = true := callable_get Try.func27 rfl rfl
def c32 : C := (.seq (.ops [kO 4 (.mov (kC 0))])
 (.seq (.ops [kO 5 (.mov (.func 59))])
 (.seq (.seq (.ops [kO 6 (.mov (kT 0)),
 kO 7 (.lenS (kT 6)),
 kO 8 (.mov (kT 1)),
 kO 9 (kA .neq (kT 7) (kT 8)),
 kO 10 (.mov (kT 9)),
 ⟨some 11,.mov (kT 0),(some (10,kF))⟩,
 ⟨some 12,.mov (kT 5),(some (10,kF))⟩,
 ⟨some 13,.call 51 [.tmp 11,.tmp 12],(some (10,kF))⟩,
 kO 14 (.pick (kT 10) (.const (.bool kE)) (kT 13))])
 (.cond (kT 14) (.seq (.ops [kO 4 (.mov (kC 1))])
 .ret)
 .skip))
 (.seq (.ops [kO 4 (.mov (kC 0))])
 .ret))))
theorem enter32 (hl : xs.length ≤ 15) (w : wq E 15 none c32 (frameOf xs) h [] (leaveQ E [.tmp 4] Q)) : CallP E 32 xs h Q :=
  CallP.enterQ (fn := Try.f32) (fn_get Try.func32) (code := Try.f32.body.get rfl) rfl rfl rfl (by kernel_rfl) rfl (fun _ => rfl) hl w
theorem can32 : callable E 32 = true := callable_get Try.func32 rfl rfl
def c33 : C := (.seq (.ops [kO 2 (.box 25 (kT 0)),
 kO 4 (.mov (.const kN))])
 (.seq (.ops [kO 8 (.fldA 1 (kT 2)),
 kO 9 (.load1 (kT 8)),
 kO 10 (.lenS (kT 9)),
 kO 11 (.make 3 [kZ] 8 (kT 10) (kT 10)),
 kO 5 (.mov (kT 11))])
 (.seq (.seq (.ops [kO 12 (.fldA 1 (kT 2)),
 kO 13 (.load1 (kT 12)),
 kO 14 (.lenS (kT 13)),
 kO 15 (.mov (kC 0))])
 (.block 0 (.loop (.seq (.ops [kO 16 (kA .lss (kT 15) (kT 14))])
 (.seq (.cond (kT 16) .skip
 (.exit 0))
 (.seq (.block 1 (.seq (.ops [kO 17 (.mov (kT 15)),
 kO 18 (.idxS 2 (kT 13) (kT 15)),
 kO 19 (.loadN 2 (kT 18)),
 kO 7 (.alloc 57 [kZ,kZ]),
 kO 6 (.mov (kT 17)),
 ⟨none,.store 2 (kT 7) (kT 19),none⟩])
 (.ops [kO 20 (.mov (kT 5)),
 kO 21 (.mov (kT 6)),
 kO 22 (.mov (kT 1)),
 kO 23 (.idxA 2 1 (kT 7) (kC 1)),
 kO 24 (.load1 (kT 23)),
 kO 25 (.idxS 1 (kT 22) (kT 24)),
 kO 26 (.load1 (kT 25)),
 kO 27 (.mov (kT 1)),
 kO 28 (.idxA 2 1 (kT 7) (kC 0)),
 kO 29 (.load1 (kT 28)),
 kO 30 (.idxS 1 (kT 27) (kT 29)),
 kO 31 (.load1 (kT 30)),
 kO 32 (kA .sub (kT 26) (kT 31)),
 kO 33 (.idxS 1 (kT 20) (kT 21)),
 ⟨none,.store 1 (kT 33) (kT 32),none⟩])))
 (.ops [kO 34 (kA .add (kT 15) (kC 1)),
 kO 15 (.mov (kT 34))])))))))
 (.seq (.ops [kO 35 (.mov (kT 5)),
 kO 4 (.mov (kT 35))])
 .ret))))
theorem enter33 (hl : xs.length ≤ 36) (w : wq E 36 none c33 (frameOf xs) h [] (leaveQ E [.tmp 4] Q)) : CallP E 33 xs h Q :=
  CallP.enterQ (fn := Try.f33) (fn_get Try.func33) (code := Try.f33.body.get rfl) rfl rfl rfl (by kernel_rfl) rfl (fun _ => rfl) hl w
theorem can33 : callable E 33 = true := callable_get Try.func33 rfl rfl
def c34 : C := (.seq (.ops [kO 2 (.box 25 (kT 0)),
 kO 4 (.mov (.const kN))])
 (.seq (.ops [kO 11 (.fldA 1 (kT 2)),
 kO 12 (.load1 (kT 11)),
 kO 13 (.lenS (kT 12)),
 kO 14 (.make 3 [kZ] 8 (kT 13) (kT 13)),
 kO 5 (.mov (kT 14))])
 (.seq (.seq (.ops [kO 15 (.fldA 2 (kT 2)),
 kO 16 (.load1 (kT 15)),
 kO 17 (.lenS (kT 16)),
 kO 18 (.mov (kC 0))])
 (.block 0 (.loop (.seq (.ops [kO 19 (kA .lss (kT 18) (kT 17))])
 (.seq (.cond (kT 19) .skip
 (.exit 0))
 (.seq (.block 1 (.seq (.ops [kO 20 (.mov (kT 18)),
 kO 21 (.idxS 3 (kT 16) (kT 18)),
 kO 22 (.loadN 3 (kT 21)),
 kO 7 (.alloc 58 [kZ,kZ,kZ]),
 kO 6 (.mov (kT 20)),
 ⟨none,.store 3 (kT 7) (kT 22),none⟩])
 (.seq (.ops [kO 24 (.loadN 3 (kT 2)),
 kO 25 (.loadN 3 (kT 7)),
 kO 26 (.call 60 [.tmp 24,.tmp 25]),
 kO 23 (.mov (kT 26)),
 kO 27 (.ext (kT 23) 0),
 kO 28 (.ext (kT 23) 1),
 kO 29 (.ext (kT 23) 2),
 kO 8 (.mov (kT 27)),
 kO 9 (.mov (kT 28)),
 kO 10 (.mov (kT 29))])
 (.seq (.ops [kO 30 (.mov (kT 5)),
 kO 31 (.mov (kT 8)),
 kO 32 (.idxS 1 (kT 30) (kT 31)),
 kO 33 (.load1 (kT 32)),
 kO 34 (.mov (kT 1)),
 kO 35 (.mov (kT 6)),
 kO 36 (.idxS 1 (kT 34) (kT 35)),
 kO 37 (.load1 (kT 36)),
 kO 38 (kA .add (kT 33) (kT 37)),
 kO 39 (.idxS 1 (kT 30) (kT 31)),
 ⟨none,.store 1 (kT 39) (kT 38),none⟩])
 (.seq (.ops [kO 40 (.mov (kT 5)),
 kO 41 (.mov (kT 9)),
 kO 42 (.idxS 1 (kT 40) (kT 41)),
 kO 43 (.load1 (kT 42)),
 kO 44 (.mov (kT 1)),
 kO 45 (.mov (kT 6)),
 kO 46 (.idxS 1 (kT 44) (kT 45)),
 kO 47 (.load1 (kT 46)),
 kO 48 (kA .add (kT 43) (kT 47)),
 kO 49 (.idxS 1 (kT 40) (kT 41)),
 ⟨none,.store 1 (kT 49) (kT 48),none⟩])
 (.ops [kO 50 (.mov (kT 5)),
 kO 51 (.mov (kT 10)),
 kO 52 (.idxS 1 (kT 50) (kT 51)),
 kO 53 (.load1 (kT 52)),
 kO 54 (.mov (kT 1)),
 kO 55 (.mov (kT 6)),
 kO 56 (.idxS 1 (kT 54) (kT 55)),
 kO 57 (.load1 (kT 56)),
 kO 58 (kA .sub (kT 53) (kT 57)),
 kO 59 (.idxS 1 (kT 50) (kT 51)),
 ⟨none,.store 1 (kT 59) (kT 58),none⟩]))))))
 (.ops [kO 60 (kA .add (kT 18) (kC 1)),
 kO 18 (.mov (kT 60))])))))))
 (.seq (.ops [kO 61 (.mov (kT 5)),
 kO 4 (.mov (kT 61))])
 .ret))))
theorem enter34 (hl : xs.length ≤ 62) (w : wq E 62 none c34 (frameOf xs) h [] (leaveQ E [.tmp 4] Q)) : CallP E 34 xs h Q :=
  CallP.enterQ (fn := Try.f34) (fn_get Try.func34) (code := Try.f34.body.get rfl) rfl rfl rfl (by kernel_rfl) rfl (fun _ => rfl) hl w
theorem can34 : callable E 34 = true := callable_get Try.func34 rfl rfl
def c37 : C := (.seq (.ops [kO 2 (.box 25 (kT 0)),
 kO 4 (.mov (kC 0))])
 (.seq (.seq (.ops [kO 6 (.loadN 3 (kT 2)),
 kO 7 (.call 8 [.tmp 6]),
 kO 5 (.mov (kT 7))])
 (.seq (.ops [kO 8 (.mov (kT 5)),
 kO 9 (kA .neq (kT 8) (kC 0))])
 (.cond (kT 9) (.seq (.ops [kO 10 (.mov (kT 5)),
 kO 4 (.mov (kT 10))])
 .ret)
 .skip)))
 (.seq (.ops [kO 11 (.mov (kT 1)),
 kO 12 (.fldA 1 (kT 2)),
 kO 13 (.load1 (kT 12)),
 kO 14 (.lenS (kT 13)),
 kO 15 (.call 32 [.tmp 11,.tmp 14]),
 kO 4 (.mov (kT 15))])
 .ret)))
theorem enter37 (hl : xs.length ≤ 16) (w : wq E 16 none c37 (frameOf xs) h [] (leaveQ E [.tmp 4] Q)) : CallP E 37 xs h Q :=
  CallP.enterQ (fn := Try.f37) (fn_get Try.func37) (code := Try.f37.body.get rfl) rfl rfl rfl (by kernel_rfl) rfl (fun _ => rfl) hl w
theorem can37 : callable E 37 = true := callable_get Try.func37 rfl rfl
def c51 : C := (.seq (.ops [kO 4 (.mov (.const (.bool kF)))])
 (.seq (.ops [kO 5 (.mov (kT 0)),
 kO 6 (.mov (kT 1)),
 kO 7 (.call 73 [.tmp 5,.tmp 6]),
 kO 8 (kA .geq (kT 7) (kC 0)),
 kO 4 (.mov (kT 8))])
 .ret))
theorem enter51 (hl : xs.length ≤ 9) (w : wq E 9 none c51 (frameOf xs) h [] (leaveQ E [.tmp 4] Q)) : CallP E 51 xs h Q :=
  CallP.enterQ (fn := Try.f51) (fn_get Try.func51) (code := Try.f51.body.get rfl) rfl rfl rfl (by kernel_rfl) rfl (fun _ => rfl) hl w
theorem can51 : callable E 51 = true := callable_get Try.func51 rfl rfl
def c52 : C := (.seq (.ops [kO 4 (.mov (kC 0))])
 (.seq (.seq (.ops [kO 9 (.mov (kT 0)),
 kO 10 (.lenS (kT 9)),
 kO 11 (.mov (kC 0))])
 (.block 0 (.loop (.seq (.ops [kO 12 (kA .lss (kT 11) (kT 10))])
 (.seq (.cond (kT 12) .skip
 (.exit 0))
 (.seq (.block 1 (.seq (.ops [kO 13 (.mov (kT 11)),
 kO 14 (.idxS 1 (kT 9) (kT 11)),
 kO 15 (.load1 (kT 14)),
 kO 5 (.mov (kT 13)),
 kO 6 (.mov (kT 15))])
 (.seq (.seq (.ops [kO 16 (.mov (kT 5)),
 kO 17 (.mov (kT 1)),
 kO 18 (.lenS (kT 17)),
 kO 19 (kA .geq (kT 16) (kT 18))])
 (.cond (kT 19) (.seq (.ops [kO 4 (.mov (kC 1))])
 .ret)
 .skip))
 (.seq (.ops [kO 20 (.mov (kT 1)),
 kO 21 (.mov (kT 5)),
 kO 22 (.idxS 1 (kT 20) (kT 21)),
 kO 23 (.load1 (kT 22)),
 kO 7 (.mov (kT 23))])
 (.seq (.ops [kO 24 (.mov (kT 6)),
 kO 25 (.mov (kT 7)),
 kO 26 (.call 74 [.tmp 24,.tmp 25]),
 kO 8 (.mov (kT 26))])
 (.seq (.ops [kO 27 (.mov (kT 8)),
 kO 28 (kA .neq (kT 27) (kC 0))])
 (.cond (kT 28) (.seq (.ops [kO 29 (.mov (kT 8)),
 kO 4 (.mov (kT 29))])
 .ret)
 .skip)))))))
 (.ops [kO 30 (kA .add (kT 11) (kC 1)),
 kO 11 (.mov (kT 30))])))))))
 (.seq (.seq (.ops [kO 31 (.mov (kT 0)),
 kO 32 (.lenS (kT 31)),
 kO 33 (.mov (kT 1)),
 kO 34 (.lenS (kT 33)),
 kO 35 (kA .lss (kT 32) (kT 34))])
 (.cond (kT 35) (.seq (.ops [kO 4 (.mov (.const (.int .i64 (-1))))])
 .ret)
 .skip))
 (.seq (.ops [kO 4 (.mov (kC 0))])
 .ret))))
theorem enter52 (hl : xs.length ≤ 36) (w : wq E 36 none c52 (frameOf xs) h [] (leaveQ E [.tmp 4] Q)) : CallP E 52 xs h Q :=
  CallP.enterQ (fn := Try.f52) (fn_get Try.func52) (code := Try.f52.body.get rfl) rfl rfl rfl (by kernel_rfl) rfl (fun _ => rfl) hl w
theorem can52 : callable E 52 = true := callable_get Try.func52 rfl rfl
def c53 : C := (.seq (.ops [kO 3 (.box 25 (kT 0)),
 kO 6 (.mov (kC 0)),
 kO 7 (.mov (.const (.bool kF)))])
 (.seq (.ops [kO 8 (.fldA 1 (kT 3)),
 kO 9 (.load1 (kT 8)),
 kO 10 (.mov (kT 1)),
 kO 11 (.mov (kT 2)),
 kO 12 (.aggr [kZ,kZ] [(0,1,(kT 10)),(1,1,(kT 11))]),
 kO 13 (.call 75 [.tmp 9,.tmp 12,.func 76]),
 kO 14 (.ext (kT 13) 0),
 kO 15 (.ext (kT 13) 1),
 kO 6 (.mov (kT 14)),
 kO 7 (.mov (kT 15))])
 .ret))
theorem enter53 (hl : xs.length ≤ 16) (w : wq E 16 none c53 (frameOf xs) h [] (leaveQ E [.tmp 6,.tmp 7] Q)) : CallP E 53 xs h Q :=
  CallP.enterQ (fn := Try.f53) (fn_get Try.func53) (code := Try.f53.body.get rfl) rfl rfl rfl (by kernel_rfl) rfl (fun _ => rfl) hl w
theorem can53 : callable E 53 = true := callable_get Try.func53 rfl rfl
def c59 : C := (.seq (.ops [kO 2 (.mov (.const (.bool kF)))])
 (.seq (.ops [kO 3 (.mov (kT 0)),
 kO 4 (kA .lss (kT 3) (.const (.int .i64 (-100)))),
 kO 5 (.mov (kT 4)),
 ⟨some 6,.mov (kT 0),(some (5,kF))⟩,
 ⟨some 7,kA .gtr (kT 6) (kC 100),(some (5,kF))⟩,
 kO 8 (.pick (kT 5) (.const (.bool kE)) (kT 7)),
 kO 2 (.mov (kT 8))])
 .ret))
theorem enter59 (hl : xs.length ≤ 9) (w : wq E 9 none c59 (frameOf xs) h [] (leaveQ E [.tmp 2] Q)) : CallP E 59 xs h Q :=
  CallP.enterQ (fn := Try.f59) (fn_get Try.func59) (code := Try.f59.body.get rfl) rfl rfl rfl (by kernel_rfl) rfl (fun _ => rfl) hl w
theorem can59 : callable E 59 = true := callable_get Try.func59 rfl rfl
def c60 : C := (.seq (.ops [kO 2 (.box 25 (kT 0)),
 kO 3 (.box 58 (kT 1)),
 kO 4 (.mov (kC 0)),
 kO 5 (.mov (kC 0)),
 kO 6 (.mov (kC 0))])
 (.seq (.ops [kO 8 (.loadN 3 (kT 2)),
 kO 9 (.idxA 3 1 (kT 3) (kC 0)),
 kO 10 (.load1 (kT 9)),
 kO 11 (.idxA 3 1 (kT 3) (kC 1)),
 kO 12 (.load1 (kT 11)),
 kO 13 (.call 53 [.tmp 8,.tmp 10,.tmp 12]),
 kO 7 (.mov (kT 13)),
 kO 14 (.ext (kT 7) 0),
 kO 15 (.ext (kT 7) 1),
 kO 4 (.mov (kT 14))])
 (.seq (.ops [kO 17 (.loadN 3 (kT 2)),
 kO 18 (.idxA 3 1 (kT 3) (kC 1)),
 kO 19 (.load1 (kT 18)),
 kO 20 (.idxA 3 1 (kT 3) (kC 2)),
 kO 21 (.load1 (kT 20)),
 kO 22 (.call 53 [.tmp 17,.tmp 19,.tmp 21]),
 kO 16 (.mov (kT 22)),
 kO 23 (.ext (kT 16) 0),
 kO 24 (.ext (kT 16) 1),
 kO 5 (.mov (kT 23))])
 (.seq (.ops [kO 26 (.loadN 3 (kT 2)),
 kO 27 (.idxA 3 1 (kT 3) (kC 0)),
 kO 28 (.load1 (kT 27)),
 kO 29 (.idxA 3 1 (kT 3) (kC 2)),
 kO 30 (.load1 (kT 29)),
 kO 31 (.call 53 [.tmp 26,.tmp 28,.tmp 30]),
 kO 25 (.mov (kT 31)),
 kO 32 (.ext (kT 25) 0),
 kO 33 (.ext (kT 25) 1),
 kO 6 (.mov (kT 32))])
 (.seq (.ops [kO 34 (.mov (kT 4)),
 kO 35 (.mov (kT 5)),
 kO 36 (.mov (kT 6)),
 kO 4 (.mov (kT 34)),
 kO 5 (.mov (kT 35)),
 kO 6 (.mov (kT 36))])
 .ret)))))
theorem enter60 (hl : xs.length ≤ 37) (w : wq E 37 none c60 (frameOf xs) h [] (leaveQ E [.tmp 4,.tmp 5,.tmp 6] Q)) : CallP E 60 xs h Q :=
  CallP.enterQ (fn := Try.f60) (fn_get Try.func60) (code := Try.f60.body.get rfl) rfl rfl rfl (by kernel_rfl) rfl (fun _ => rfl) hl w
theorem can60 : callable E 60 = true := callable_get Try.func60 rfl rfl
def c73 : C := (.seq (.ops [kO 4 (.mov (kC 0))])
 (.seq (.seq (.ops [kO 6 (.mov (kT 0)),
 kO 7 (.lenS (kT 6)),
 kO 8 (.mov (kC 0))])
 (.block 0 (.loop (.seq (.ops [kO 9 (kA .lss (kT 8) (kT 7))])
 (.seq (.cond (kT 9) .skip
 (.exit 0))
 (.seq (.block 1 (.seq (.ops [kO 10 (.mov (kT 8)),
 kO 5 (.mov (kT 10))])
 (.seq (.ops [kO 11 (.mov (kT 1)),
 kO 12 (.mov (kT 0)),
 kO 13 (.mov (kT 5)),
 kO 14 (.idxS 1 (kT 12) (kT 13)),
 kO 15 (.load1 (kT 14)),
 kO 16 (.callv (kT 11) [.tmp 15])])
 (.cond (kT 16) (.seq (.ops [kO 17 (.mov (kT 5)),
 kO 4 (.mov (kT 17))])
 .ret)
 .skip))))
 (.ops [kO 18 (kA .add (kT 8) (kC 1)),
 kO 8 (.mov (kT 18))])))))))
 (.seq (.ops [kO 4 (.mov (.const (.int .i64 (-1))))])
 .ret)))
theorem enter73 (hl : xs.length ≤ 19) (w : wq E 19 none c73 (frameOf xs) h [] (leaveQ E [.tmp 4] Q)) : CallP E 73 xs h Q :=
  CallP.enterQ (fn := Try.f73) (fn_get Try.func73) (code := Try.f73.body.get rfl) rfl rfl rfl (by kernel_rfl) rfl (fun _ => rfl) hl w
theorem can73 : callable E 73 = true := callable_get Try.func73 rfl rfl
def c74 : C := (.seq (.ops [kO 4 (.mov (kC 0))])
 (.seq (.ops [kO 7 (.mov (kT 0)),
 kO 8 (.call 84 [.tmp 7]),
 kO 5 (.mov (kT 8))])
 (.seq (.ops [kO 9 (.mov (kT 1)),
 kO 10 (.call 84 [.tmp 9]),
 kO 6 (.mov (kT 10))])
 (.seq (.seq (.ops [kO 11 (.mov (kT 5))])
 (.cond (kT 11) (.seq (.seq (.ops [kO 12 (.mov (kT 6))])
 (.cond (kT 12) (.seq (.ops [kO 4 (.mov (kC 0))])
 .ret)
 .skip))
 (.seq (.ops [kO 4 (.mov (.const (.int .i64 (-1))))])
 .ret))
 .skip))
 (.seq (.seq (.ops [kO 13 (.mov (kT 6))])
 (.cond (kT 13) (.seq (.ops [kO 4 (.mov (kC 1))])
 .ret)
 .skip))
 (.seq (.seq (.ops [kO 14 (.mov (kT 0)),
 kO 15 (.mov (kT 1)),
 kO 16 (kA .lss (kT 14) (kT 15))])
 (.cond (kT 16) (.seq (.ops [kO 4 (.mov (.const (.int .i64 (-1))))])
 .ret)
 .skip))
 (.seq (.seq (.ops [kO 17 (.mov (kT 0)),
 kO 18 (.mov (kT 1)),
 kO 19 (kA .gtr (kT 17) (kT 18))])
 (.cond (kT 19) (.seq (.ops [kO 4 (.mov (kC 1))])
 .ret)
 .skip))
 (.seq (.ops [kO 4 (.mov (kC 0))])
 .ret))))))))
theorem enter74 (hl : xs.length ≤ 20) (w : wq E 20 none c74 (frameOf xs) h [] (leaveQ E [.tmp 4] Q)) : CallP E 74 xs h Q :=
  CallP.enterQ (fn := Try.f74) (fn_get Try.func74) (code := Try.f74.body.get rfl) rfl rfl rfl (by kernel_rfl) rfl (fun _ => rfl) hl w
theorem can74 : callable E 74 = true := callable_get Try.func74 rfl rfl
def c75 : C := (.seq (.ops [kO 4 (.box 57 (kT 1)),
 kO 6 (.mov (kC 0)),
 kO 7 (.mov (.const (.bool kF)))])
 (.seq (.ops [kO 12 (.mov (kT 0)),
 kO 13 (.lenS (kT 12)),
 kO 8 (.mov (kT 13))])
 (.seq (.ops [kO 14 (.mov (kT 8)),
 kO 9 (.mov (kC 0)),
 kO 10 (.mov (kT 14))])
 (.seq (.block 0 (.loop (.seq (.seq (.ops [kO 15 (.mov (kT 9)),
 kO 16 (.mov (kT 10)),
 kO 17 (kA .lss (kT 15) (kT 16))])
 (.cond (kT 17) .skip
 (.exit 0)))
 (.block 1 (.seq (.ops [kO 18 (.mov (kT 9)),
 kO 19 (.mov (kT 10)),
 kO 20 (kA .add (kT 18) (kT 19)),
 kO 21 (.cint .u64 (kT 20)),
 kO 22 (.ar .u64 .shr (kT 21) (.const (.int .u64 1))),
 kO 23 (.cint .i64 (kT 22)),
 kO 11 (.mov (kT 23))])
 (.seq (.ops [kO 24 (.mov (kT 2)),
 kO 25 (.mov (kT 0)),
 kO 26 (.mov (kT 11)),
 kO 27 (.idxS 2 (kT 25) (kT 26)),
 kO 28 (.loadN 2 (kT 27)),
 kO 29 (.loadN 2 (kT 4)),
 kO 30 (.callv (kT 24) [.tmp 28,.tmp 29]),
 kO 31 (kA .lss (kT 30) (kC 0))])
 (.cond (kT 31) (.ops [kO 32 (.mov (kT 11)),
 kO 33 (kA .add (kT 32) (kC 1)),
 kO 9 (.mov (kT 33))])
 (.ops [kO 34 (.mov (kT 11)),
 kO 10 (.mov (kT 34))]))))))))
 (.seq (.draw [kO 35 (.mov (kT 9)),
 kO 36 (.mov (kT 9)),
 kO 37 (.mov (kT 8)),
 kO 38 (kA .lss (kT 36) (kT 37)),
 kO 39 (.mov (kT 38)),
 ⟨some 40,.mov (kT 2),(some (39,kE))⟩,
 ⟨some 41,.mov (kT 0),(some (39,kE))⟩,
 ⟨some 42,.mov (kT 9),(some (39,kE))⟩,
 ⟨some 43,.idxS 2 (kT 41) (kT 42),(some (39,kE))⟩,
 ⟨some 44,.loadN 2 (kT 43),(some (39,kE))⟩,
 ⟨some 45,.loadN 2 (kT 4),(some (39,kE))⟩,
 ⟨some 46,.callv (kT 40) [.tmp 44,.tmp 45],(some (39,kE))⟩,
 ⟨some 47,kA .eql (kT 46) (kC 0),(some (39,kE))⟩,
 kO 48 (.pick (kT 39) (kT 47) (.const (.bool kF))),
 kO 6 (.mov (kT 35)),
 kO 7 (.mov (kT 48))]
 [⟨kF,kE,fL1,fL6⟩,
 ⟨kF,kF,fL1,fL1⟩,
 ⟨kF,kF,fL1,fL1⟩,
 ⟨kF,kF,fL1,fL1⟩,
 ⟨kF,kF,fL1,fL1⟩,
 ⟨kF,kF,fL1,fL1⟩,
 ⟨kF,kF,fL1,fL1⟩,
 ⟨kF,kF,fL1,fL1⟩,
 ⟨kF,kF,fL1,fL1⟩,
 ⟨kF,kF,fL1,fL1⟩,
 ⟨kF,kF,fL1,fL1⟩,
 ⟨kE,kF,fL1,fL6⟩,
 ⟨kF,kF,fL6,fL6⟩,
 ⟨kF,kF,fL6,fL6⟩,
 ⟨kF,kF,fL6,fL6⟩,
 ⟨kF,kF,fL6,fL6⟩])
 .ret)))))
theorem enter75 (hl : xs.length ≤ 49) (w : wq E 49 none c75 (frameOf xs) h [] (leaveQ E [.tmp 6,.tmp 7] Q)) : CallP E 75 xs h Q :=
  CallP.enterQ (fn := Try.f75) (fn_get Try.func75) (code := Try.f75.body.get rfl) rfl rfl rfl (by kernel_rfl) rfl (fun _ => rfl) hl w
theorem can75 : callable E 75 = true := callable_get Try.func75 rfl rfl
def c76 : C := (.seq (.ops [kO 2 (.box 57 (kT 0)),
 kO 3 (.box 57 (kT 1)),
 kO 4 (.mov (kC 0))])
 (.seq (.ops [kO 5 (.cutA 2 1 (kT 2) none none none),
 kO 6 (.cutA 2 1 (kT 3) none none none),
 kO 7 (.call 52 [.tmp 5,.tmp 6]),
 kO 4 (.mov (kT 7))])
 .ret))
theorem enter76 (hl : xs.length ≤ 8) (w : wq E 8 none c76 (frameOf xs) h [] (leaveQ E [.tmp 4] Q)) : CallP E 76 xs h Q :=
  CallP.enterQ (fn := Try.f76) (fn_get Try.func76) (code := Try.f76.body.get rfl) rfl rfl rfl (by kernel_rfl) rfl (fun _ => rfl) hl w
theorem can76 : callable E 76 = true := callable_get Try.func76 rfl rfl
def c84 : C := (.seq (.ops [kO 2 (.mov (.const (.bool kF)))])
 (.seq (.ops [kO 3 (.mov (kT 0)),
 kO 4 (.mov (kT 0)),
 kO 5 (kA .neq (kT 3) (kT 4)),
 kO 2 (.mov (kT 5))])
 .ret))
theorem enter84 (hl : xs.length ≤ 6) (w : wq E 6 none c84 (frameOf xs) h [] (leaveQ E [.tmp 2] Q)) : CallP E 84 xs h Q :=
  CallP.enterQ (fn := Try.f84) (fn_get Try.func84) (code := Try.f84.body.get rfl) rfl rfl rfl (by kernel_rfl) rfl (fun _ => rfl) hl w
theorem can84 : callable E 84 = true := callable_get Try.func84 rfl rfl
end
end Go.Proofs.Ytljbibjnidccbab
