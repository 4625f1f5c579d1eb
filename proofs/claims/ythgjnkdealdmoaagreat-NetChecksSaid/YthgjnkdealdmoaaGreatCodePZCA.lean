/- The code of the functions that PZCA comes to. -/
import Derived.Test.YthgjnkdealdmoaaGreatTypesC
set_option maxRecDepth 100000
set_option linter.unusedSectionVars false
set_option linter.unusedVariables false
namespace Go.Proofs.YthgjnkdealdmoaaGreat
open Go.Rx Go.RowKit
noncomputable section
abbrev kF:=false
abbrev kE:=true
abbrev fL0:List Bool:=[kF,kF,kF,kF,kF,kF,kE,kF]
abbrev fL1:List Bool:=[kF,kF,kF,kF,kF,kF,kF,kF]
abbrev kO (d:Nat) (t:TOp):G:=⟨some d,t,none⟩
abbrev kT:=Operand.tmp
abbrev kC (n:Int):Operand:=.const (.int .i64 n)
abbrev kN:Value:=.slice none 0 0
abbrev kZ:Value:=.int .i64 0
abbrev kA:=TOp.ar .i64
variable [Unknowns] {xs : List Value} {h : Hp} {Q : Value → Hp → Prop}
def c3 : C := (.seq (.ops [kO 6 (.mov (.const (.bool kF)))])
 (.seq (.ops [kO 48 (.mov (kT 1)),
 kO 49 (.call 4 [.tmp 48]),
 kO 7 (.mov (kT 49))])
 (.seq (.ops [kO 50 (.mov (kT 0)),
 kO 51 (.mov (kT 7)),
 kO 52 (.call 5 [.tmp 50,.tmp 51]),
 kO 8 (.mov (kT 52))])
 (.seq (.seq (.ops [kO 53 (.mov (kT 0)),
 kO 54 (.mov (kT 7)),
 kO 55 (.call 6 [.tmp 53,.tmp 54]),
 kO 56 (.mov (kT 8)),
 kO 57 (kA .neq (kT 55) (kT 56))])
 (.cond (kT 57) (.seq (.ops [kO 6 (.mov (.const (.bool kF)))])
 .ret)
 .skip))
 (.seq (.seq (.ops [kO 58 (.mov (kT 8)),
 kO 59 (kA .neq (kT 58) (kC 0))])
 (.cond (kT 59) (.seq (.ops [kO 61 (.mov (kT 0)),
 kO 62 (.mov (kT 7)),
 kO 63 (.call 7 [.tmp 61,.tmp 62]),
 kO 60 (.mov (kT 63)),
 kO 64 (.ext (kT 60) 0),
 kO 65 (.ext (kT 60) 1),
 kO 9 (.mov (kT 64)),
 kO 10 (.mov (kT 65))])
 (.seq (.ops [kO 67 (.mov (kT 0)),
 kO 68 (.mov (kT 7)),
 kO 69 (.call 8 [.tmp 67,.tmp 68]),
 kO 66 (.mov (kT 69)),
 kO 70 (.ext (kT 66) 0),
 kO 71 (.ext (kT 66) 1),
 kO 11 (.mov (kT 70)),
 kO 12 (.mov (kT 71))])
 (.seq (.ops [kO 73 (.mov (kT 0)),
 kO 74 (.mov (kT 7)),
 kO 75 (.call 9 [.tmp 73,.tmp 74]),
 kO 72 (.mov (kT 75)),
 kO 76 (.ext (kT 72) 0),
 kO 77 (.ext (kT 72) 1),
 kO 13 (.mov (kT 76)),
 kO 14 (.mov (kT 77))])
 (.seq (.ops [kO 79 (.mov (kT 0)),
 kO 80 (.mov (kT 7)),
 kO 81 (.call 10 [.tmp 79,.tmp 80,(kC 99),(kC 0)]),
 kO 78 (.mov (kT 81)),
 kO 82 (.ext (kT 78) 0),
 kO 83 (.ext (kT 78) 1),
 kO 15 (.mov (kT 82)),
 kO 16 (.mov (kT 83))])
 (.seq (.ops [kO 85 (.mov (kT 0)),
 kO 86 (.mov (kT 7)),
 kO 87 (.call 11 [.tmp 85,.tmp 86,(.const (.int .i64 (-1)))]),
 kO 84 (.mov (kT 87)),
 kO 88 (.ext (kT 84) 0),
 kO 89 (.ext (kT 84) 1),
 kO 90 (.ext (kT 84) 2),
 kO 17 (.mov (kT 88)),
 kO 18 (.mov (kT 89)),
 kO 19 (.mov (kT 90))])
 (.seq (.ops [kO 92 (.mov (kT 0)),
 kO 93 (.mov (kT 7)),
 kO 94 (.call 12 [.tmp 92,.tmp 93,(kC 0)]),
 kO 91 (.mov (kT 94)),
 kO 95 (.ext (kT 91) 0),
 kO 96 (.ext (kT 91) 1),
 kO 97 (.ext (kT 91) 2),
 kO 20 (.mov (kT 95)),
 kO 21 (.mov (kT 96)),
 kO 22 (.mov (kT 97))])
 (.seq (.ops [kO 99 (.mov (kT 0)),
 kO 100 (.mov (kT 7)),
 kO 101 (.call 13 [.tmp 99,.tmp 100,(kC 0),(.const kN)]),
 kO 98 (.mov (kT 101)),
 kO 102 (.ext (kT 98) 0),
 kO 103 (.ext (kT 98) 1),
 kO 23 (.mov (kT 102)),
 kO 24 (.mov (kT 103))])
 (.seq (.ops [kO 105 (.mov (kT 0)),
 kO 106 (.mov (kT 7)),
 kO 107 (.call 14 [.tmp 105,.tmp 106]),
 kO 104 (.mov (kT 107)),
 kO 108 (.ext (kT 104) 0),
 kO 109 (.ext (kT 104) 1),
 kO 25 (.mov (kT 108)),
 kO 26 (.mov (kT 109))])
 (.seq (.ops [kO 111 (.mov (kT 0)),
 kO 112 (.mov (kT 7)),
 kO 113 (.call 15 [.tmp 111,.tmp 112]),
 kO 110 (.mov (kT 113)),
 kO 114 (.ext (kT 110) 0),
 kO 115 (.ext (kT 110) 1),
 kO 27 (.mov (kT 114)),
 kO 28 (.mov (kT 115))])
 (.seq (.ops [kO 117 (.mov (kT 0)),
 kO 118 (.mov (kT 7)),
 kO 119 (.call 16 [.tmp 117,.tmp 118]),
 kO 116 (.mov (kT 119)),
 kO 120 (.ext (kT 116) 0),
 kO 121 (.ext (kT 116) 1),
 kO 29 (.mov (kT 120)),
 kO 30 (.mov (kT 121))])
 (.seq (.ops [kO 122 (.mov (kT 10)),
 kO 123 (.mov (kT 8)),
 kO 124 (kA .neq (kT 122) (kT 123)),
 kO 125 (.mov (kT 124)),
 ⟨some 126,.mov (kT 12),(some (125,kF))⟩,
 ⟨some 127,.mov (kT 8),(some (125,kF))⟩,
 ⟨some 128,kA .neq (kT 126) (kT 127),(some (125,kF))⟩,
 kO 129 (.pick (kT 125) (.const (.bool kE)) (kT 128)),
 kO 130 (.mov (kT 129)),
 ⟨some 131,.mov (kT 14),(some (130,kF))⟩,
 ⟨some 132,.mov (kT 8),(some (130,kF))⟩,
 ⟨some 133,kA .neq (kT 131) (kT 132),(some (130,kF))⟩,
 kO 134 (.pick (kT 130) (.const (.bool kE)) (kT 133)),
 kO 135 (.mov (kT 134)),
 ⟨some 136,.mov (kT 16),(some (135,kF))⟩,
 ⟨some 137,.mov (kT 8),(some (135,kF))⟩,
 ⟨some 138,kA .neq (kT 136) (kT 137),(some (135,kF))⟩,
 kO 139 (.pick (kT 135) (.const (.bool kE)) (kT 138)),
 kO 140 (.mov (kT 139)),
 ⟨some 141,.mov (kT 19),(some (140,kF))⟩,
 ⟨some 142,.mov (kT 8),(some (140,kF))⟩,
 ⟨some 143,kA .neq (kT 141) (kT 142),(some (140,kF))⟩,
 kO 144 (.pick (kT 140) (.const (.bool kE)) (kT 143)),
 kO 145 (.mov (kT 144)),
 ⟨some 146,.mov (kT 22),(some (145,kF))⟩,
 ⟨some 147,.mov (kT 8),(some (145,kF))⟩,
 ⟨some 148,kA .neq (kT 146) (kT 147),(some (145,kF))⟩,
 kO 149 (.pick (kT 145) (.const (.bool kE)) (kT 148)),
 kO 150 (.mov (kT 149)),
 ⟨some 151,.mov (kT 24),(some (150,kF))⟩,
 ⟨some 152,.mov (kT 8),(some (150,kF))⟩,
 ⟨some 153,kA .neq (kT 151) (kT 152),(some (150,kF))⟩,
 kO 154 (.pick (kT 150) (.const (.bool kE)) (kT 153)),
 kO 155 (.mov (kT 154)),
 ⟨some 156,.mov (kT 26),(some (155,kF))⟩,
 ⟨some 157,.mov (kT 8),(some (155,kF))⟩,
 ⟨some 158,kA .neq (kT 156) (kT 157),(some (155,kF))⟩,
 kO 159 (.pick (kT 155) (.const (.bool kE)) (kT 158)),
 kO 160 (.mov (kT 159)),
 ⟨some 161,.mov (kT 28),(some (160,kF))⟩,
 ⟨some 162,.mov (kT 8),(some (160,kF))⟩,
 ⟨some 163,kA .neq (kT 161) (kT 162),(some (160,kF))⟩,
 kO 164 (.pick (kT 160) (.const (.bool kE)) (kT 163)),
 kO 165 (.mov (kT 164)),
 ⟨some 166,.mov (kT 30),(some (165,kF))⟩,
 ⟨some 167,.mov (kT 8),(some (165,kF))⟩,
 ⟨some 168,kA .neq (kT 166) (kT 167),(some (165,kF))⟩,
 kO 169 (.pick (kT 165) (.const (.bool kE)) (kT 168)),
 kO 170 (.mov (kT 169)),
 ⟨some 171,.mov (kT 18),(some (170,kF))⟩,
 kO 172 (.pick (kT 170) (.const (.bool kE)) (kT 171)),
 kO 173 (.mov (kT 172)),
 ⟨some 174,.mov (kT 21),(some (173,kF))⟩,
 kO 175 (.pick (kT 173) (.const (.bool kE)) (kT 174)),
 kO 176 (.mov (kT 175)),
 ⟨some 177,.mov (kT 23),(some (176,kF))⟩,
 kO 178 (.pick (kT 176) (.const (.bool kE)) (kT 177)),
 kO 179 (.mov (kT 178)),
 ⟨some 180,.mov (kT 15),(some (179,kF))⟩,
 ⟨some 181,kA .neq (kT 180) (kC 0),(some (179,kF))⟩,
 kO 182 (.pick (kT 179) (.const (.bool kE)) (kT 181)),
 kO 183 (.mov (kT 182)),
 ⟨some 184,.mov (kT 9),(some (183,kF))⟩,
 ⟨some 185,.lenS (kT 184),(some (183,kF))⟩,
 ⟨some 186,.mov (kT 11),(some (183,kF))⟩,
 ⟨some 187,.lenS (kT 186),(some (183,kF))⟩,
 ⟨some 188,kA .add (kT 185) (kT 187),(some (183,kF))⟩,
 ⟨some 189,.mov (kT 13),(some (183,kF))⟩,
 ⟨some 190,.lenS (kT 189),(some (183,kF))⟩,
 ⟨some 191,kA .add (kT 188) (kT 190),(some (183,kF))⟩,
 ⟨some 192,.mov (kT 17),(some (183,kF))⟩,
 ⟨some 193,.lenS (kT 192),(some (183,kF))⟩,
 ⟨some 194,kA .add (kT 191) (kT 193),(some (183,kF))⟩,
 ⟨some 195,.mov (kT 20),(some (183,kF))⟩,
 ⟨some 196,.lenS (kT 195),(some (183,kF))⟩,
 ⟨some 197,kA .add (kT 194) (kT 196),(some (183,kF))⟩,
 ⟨some 198,.mov (kT 25),(some (183,kF))⟩,
 ⟨some 199,kA .add (kT 197) (kT 198),(some (183,kF))⟩,
 ⟨some 200,.mov (kT 27),(some (183,kF))⟩,
 ⟨some 201,kA .add (kT 199) (kT 200),(some (183,kF))⟩,
 ⟨some 202,.mov (kT 29),(some (183,kF))⟩,
 ⟨some 203,.lenS (kT 202),(some (183,kF))⟩,
 ⟨some 204,kA .add (kT 201) (kT 203),(some (183,kF))⟩,
 ⟨some 205,kA .neq (kT 204) (kC 0),(some (183,kF))⟩,
 kO 206 (.pick (kT 183) (.const (.bool kE)) (kT 205))])
 (.cond (kT 206) (.seq (.ops [kO 6 (.mov (.const (.bool kF)))])
 .ret)
 .skip))))))))))))
 (.ops [kO 8 (.mov (kC 1))])))
 (.seq (.seq (.ops [kO 207 (.mov (kT 8)),
 kO 208 (kA .neq (kT 207) (kC 1)),
 kO 209 (.mov (kT 208)),
 ⟨some 210,.mov (kT 0),(some (209,kF))⟩,
 ⟨some 211,kA .lss (kT 210) (kC 1),(some (209,kF))⟩,
 kO 212 (.pick (kT 209) (.const (.bool kE)) (kT 211)),
 kO 213 (.mov (kT 212)),
 ⟨some 214,.mov (kT 0),(some (213,kF))⟩,
 ⟨some 215,kA .gtr (kT 214) (kC 6),(some (213,kF))⟩,
 kO 216 (.pick (kT 213) (.const (.bool kE)) (kT 215)),
 kO 217 (.mov (kT 216)),
 ⟨some 218,.mov (kT 2),(some (217,kF))⟩,
 ⟨some 219,kA .lss (kT 218) (kC 0),(some (217,kF))⟩,
 kO 220 (.pick (kT 217) (.const (.bool kE)) (kT 219)),
 kO 221 (.mov (kT 220)),
 ⟨some 222,.mov (kT 2),(some (221,kF))⟩,
 ⟨some 223,.mov (kT 7),(some (221,kF))⟩,
 ⟨some 224,.lenS (kT 223),(some (221,kF))⟩,
 ⟨some 225,kA .shl (kC 1) (kT 224),(some (221,kF))⟩,
 ⟨some 226,kA .geq (kT 222) (kT 225),(some (221,kF))⟩,
 kO 227 (.pick (kT 221) (.const (.bool kE)) (kT 226))])
 (.cond (kT 227) (.seq (.ops [kO 229 (.mov (kT 0)),
 kO 230 (.mov (kT 7)),
 kO 231 (.mov (kT 2)),
 kO 232 (.call 17 [.tmp 229,.tmp 230,.tmp 231]),
 kO 228 (.mov (kT 232)),
 kO 233 (.ext (kT 228) 0),
 kO 234 (.ext (kT 228) 1),
 kO 31 (.mov (kT 233)),
 kO 32 (.mov (kT 234))])
 (.seq (.ops [kO 236 (.mov (kT 0)),
 kO 237 (.mov (kT 7)),
 kO 238 (.mov (kT 2)),
 kO 239 (.call 18 [.tmp 236,.tmp 237,.tmp 238]),
 kO 235 (.mov (kT 239)),
 kO 240 (.ext (kT 235) 0),
 kO 241 (.ext (kT 235) 1),
 kO 33 (.mov (kT 240)),
 kO 34 (.mov (kT 241))])
 (.seq (.ops [kO 243 (.mov (kT 0)),
 kO 244 (.mov (kT 7)),
 kO 245 (.mov (kT 2)),
 kO 246 (.call 19 [.tmp 243,.tmp 244,.tmp 245]),
 kO 242 (.mov (kT 246)),
 kO 247 (.ext (kT 242) 0),
 kO 248 (.ext (kT 242) 1),
 kO 35 (.mov (kT 247)),
 kO 36 (.mov (kT 248))])
 (.seq (.ops [kO 250 (.mov (kT 0)),
 kO 251 (.mov (kT 7)),
 kO 252 (.mov (kT 2)),
 kO 253 (.call 20 [.tmp 250,.tmp 251,.tmp 252]),
 kO 249 (.mov (kT 253)),
 kO 254 (.ext (kT 249) 0),
 kO 255 (.ext (kT 249) 1),
 kO 256 (.ext (kT 249) 2),
 kO 37 (.mov (kT 254)),
 kO 38 (.mov (kT 255)),
 kO 39 (.mov (kT 256))])
 (.seq (.ops [kO 257 (.mov (kT 32)),
 kO 258 (.mov (kT 8)),
 kO 259 (kA .neq (kT 257) (kT 258)),
 kO 260 (.mov (kT 259)),
 ⟨some 261,.mov (kT 34),(some (260,kF))⟩,
 ⟨some 262,.mov (kT 8),(some (260,kF))⟩,
 ⟨some 263,kA .neq (kT 261) (kT 262),(some (260,kF))⟩,
 kO 264 (.pick (kT 260) (.const (.bool kE)) (kT 263)),
 kO 265 (.mov (kT 264)),
 ⟨some 266,.mov (kT 36),(some (265,kF))⟩,
 ⟨some 267,.mov (kT 8),(some (265,kF))⟩,
 ⟨some 268,kA .neq (kT 266) (kT 267),(some (265,kF))⟩,
 kO 269 (.pick (kT 265) (.const (.bool kE)) (kT 268)),
 kO 270 (.mov (kT 269)),
 ⟨some 271,.mov (kT 39),(some (270,kF))⟩,
 ⟨some 272,.mov (kT 8),(some (270,kF))⟩,
 ⟨some 273,kA .neq (kT 271) (kT 272),(some (270,kF))⟩,
 kO 274 (.pick (kT 270) (.const (.bool kE)) (kT 273)),
 kO 275 (.mov (kT 274)),
 ⟨some 276,.mov (kT 33),(some (275,kF))⟩,
 kO 277 (.pick (kT 275) (.const (.bool kE)) (kT 276)),
 kO 278 (.mov (kT 277)),
 ⟨some 279,.mov (kT 35),(some (278,kF))⟩,
 kO 280 (.pick (kT 278) (.const (.bool kE)) (kT 279)),
 kO 281 (.mov (kT 280)),
 ⟨some 282,.mov (kT 31),(some (281,kF))⟩,
 ⟨some 283,.mov (kT 37),(some (281,kF))⟩,
 ⟨some 284,kA .add (kT 282) (kT 283),(some (281,kF))⟩,
 ⟨some 285,.mov (kT 38),(some (281,kF))⟩,
 ⟨some 286,kA .add (kT 284) (kT 285),(some (281,kF))⟩,
 ⟨some 287,kA .neq (kT 286) (kC 0),(some (281,kF))⟩,
 kO 288 (.pick (kT 281) (.const (.bool kE)) (kT 287))])
 (.cond (kT 288) (.seq (.ops [kO 6 (.mov (.const (.bool kF)))])
 .ret)
 .skip))))))
 .skip))
 (.seq (.seq (.ops [kO 289 (.mov (kT 0)),
 kO 290 (.mov (kT 7)),
 kO 291 (.call 5 [.tmp 289,.tmp 290]),
 kO 292 (kA .neq (kT 291) (kC 0)),
 kO 293 (.mov (kT 292)),
 ⟨some 294,.mov (kT 2),(some (293,kF))⟩,
 ⟨some 295,kA .lss (kT 294) (kC 0),(some (293,kF))⟩,
 kO 296 (.pick (kT 293) (.const (.bool kE)) (kT 295)),
 kO 297 (.mov (kT 296)),
 ⟨some 298,.mov (kT 2),(some (297,kF))⟩,
 ⟨some 299,.mov (kT 0),(some (297,kF))⟩,
 ⟨some 300,kA .geq (kT 298) (kT 299),(some (297,kF))⟩,
 kO 301 (.pick (kT 297) (.const (.bool kE)) (kT 300))])
 (.cond (kT 301) (.seq (.ops [kO 303 (.mov (kT 0)),
 kO 304 (.mov (kT 7)),
 kO 305 (.mov (kT 2)),
 kO 306 (.call 21 [.tmp 303,.tmp 304,.tmp 305]),
 kO 302 (.mov (kT 306)),
 kO 307 (.ext (kT 302) 0),
 kO 308 (.ext (kT 302) 1),
 kO 40 (.mov (kT 307)),
 kO 41 (.mov (kT 308))])
 (.seq (.ops [kO 309 (.mov (kT 41)),
 kO 310 (.mov (kT 8)),
 kO 311 (kA .neq (kT 309) (kT 310)),
 kO 312 (.mov (kT 311)),
 ⟨some 313,.mov (kT 40),(some (312,kF))⟩,
 ⟨some 314,kA .neq (kT 313) (kC 0),(some (312,kF))⟩,
 kO 315 (.pick (kT 312) (.const (.bool kE)) (kT 314))])
 (.cond (kT 315) (.seq (.ops [kO 6 (.mov (.const (.bool kF)))])
 .ret)
 .skip)))
 .skip))
 (.seq (.seq (.ops [kO 316 (.mov (kT 0)),
 kO 317 (.mov (kT 7)),
 kO 318 (.call 5 [.tmp 316,.tmp 317]),
 kO 319 (kA .eql (kT 318) (kC 0)),
 kO 320 (.mov (kT 319)),
 ⟨some 321,.mov (kT 2),(some (320,kE))⟩,
 ⟨some 322,kA .geq (kT 321) (kC 0),(some (320,kE))⟩,
 kO 323 (.pick (kT 320) (kT 322) (.const (.bool kF))),
 kO 324 (.mov (kT 323)),
 ⟨some 325,.mov (kT 2),(some (324,kE))⟩,
 ⟨some 326,.mov (kT 7),(some (324,kE))⟩,
 ⟨some 327,.lenS (kT 326),(some (324,kE))⟩,
 ⟨some 328,kA .lss (kT 325) (kT 327),(some (324,kE))⟩,
 kO 329 (.pick (kT 324) (kT 328) (.const (.bool kF)))])
 (.cond (kT 329) (.seq (.ops [kO 330 (.call 22 []),
 kO 6 (.mov (kT 330))])
 .ret)
 .skip))
 (.seq (.ops [kO 332 (.mov (kT 0)),
 kO 333 (.mov (kT 7)),
 kO 334 (.mov (kT 2)),
 kO 335 (.call 23 [.tmp 332,.tmp 333,.tmp 334]),
 kO 331 (.mov (kT 335)),
 kO 336 (.ext (kT 331) 0),
 kO 337 (.ext (kT 331) 1),
 kO 338 (.ext (kT 331) 2),
 kO 42 (.mov (kT 336)),
 kO 43 (.mov (kT 337)),
 kO 44 (.mov (kT 338))])
 (.seq (.ops [kO 340 (.mov (kT 0)),
 kO 341 (.mov (kT 7)),
 kO 342 (.mov (kT 2)),
 kO 343 (.call 24 [.tmp 340,.tmp 341,.tmp 342]),
 kO 339 (.mov (kT 343)),
 kO 344 (.ext (kT 339) 0),
 kO 345 (.ext (kT 339) 1),
 kO 346 (.ext (kT 339) 2),
 kO 45 (.mov (kT 344)),
 kO 46 (.mov (kT 345)),
 kO 47 (.mov (kT 346))])
 (.seq (.ops [kO 347 (.mov (kT 44)),
 kO 348 (.mov (kT 8)),
 kO 349 (kA .eql (kT 347) (kT 348)),
 kO 350 (.mov (kT 349)),
 ⟨some 351,.mov (kT 47),(some (350,kE))⟩,
 ⟨some 352,.mov (kT 8),(some (350,kE))⟩,
 ⟨some 353,kA .eql (kT 351) (kT 352),(some (350,kE))⟩,
 kO 354 (.pick (kT 350) (kT 353) (.const (.bool kF))),
 kO 355 (.mov (kT 354)),
 ⟨some 356,.mov (kT 42),(some (355,kE))⟩,
 ⟨some 357,.mov (kT 43),(some (355,kE))⟩,
 ⟨some 358,.lenS (kT 357),(some (355,kE))⟩,
 ⟨some 359,kA .add (kT 356) (kT 358),(some (355,kE))⟩,
 ⟨some 360,.mov (kT 45),(some (355,kE))⟩,
 ⟨some 361,kA .add (kT 359) (kT 360),(some (355,kE))⟩,
 ⟨some 362,.mov (kT 46),(some (355,kE))⟩,
 ⟨some 363,.lenS (kT 362),(some (355,kE))⟩,
 ⟨some 364,kA .add (kT 361) (kT 363),(some (355,kE))⟩,
 ⟨some 365,kA .eql (kT 364) (kC 0),(some (355,kE))⟩,
 kO 366 (.pick (kT 355) (kT 365) (.const (.bool kF))),
 kO 367 (.mov (kT 366)),
 ⟨some 368,.call 22 [],(some (367,kE))⟩,
 kO 369 (.pick (kT 367) (kT 368) (.const (.bool kF))),
 kO 6 (.mov (kT 369))])
 .ret)))))))))))
theorem enter3 (hl : xs.length ≤ 370) (w : wq E 370 none c3 (frameOf xs) h [] (leaveQ E [.tmp 6] Q)) : CallP E 3 xs h Q :=
  CallP.enterQ (fn := Tryz.f3) (fn_get Tryz.func3) (code := Tryz.f3.body.get rfl) rfl rfl rfl (by kernel_rfl) rfl (fun _ => rfl) hl w
theorem can3 : callable E 3 = true := callable_get Tryz.func3 rfl rfl
def c4 : C := (.seq (.ops [kO 2 (.mov (.const kN))])
 (.seq (.ops [kO 3 (.mov (.const kN))])
 (.seq (.ops [kO 4 (.mov (kT 3)),
 kO 5 (.mov (kT 0)),
 kO 6 (.mov (kT 0)),
 kO 7 (.lenS (kT 6)),
 kO 8 (.raw (.call ⟨.builtin .min,⟨[.tmp 7,(kC 10)]⟩,⟨[3,3]⟩⟩) 3),
 kO 9 (.cutS 2 (kT 5) none (some (kT 8)) none),
 kO 10 (.append 52 2 16 (kT 4) (kT 9)),
 kO 2 (.mov (kT 10))])
 .ret)))
theorem enter4 (hl : xs.length ≤ 11) (w : wq E 11 none c4 (frameOf xs) h [] (leaveQ E [.tmp 2] Q)) : CallP E 4 xs h Q :=
  CallP.enterQ (fn := Tryz.f4) (fn_get Tryz.func4) (code := Tryz.f4.body.get rfl) rfl rfl rfl (by kernel_rfl) rfl (fun _ => rfl) hl w
theorem can4 : callable E 4 = true := callable_get Tryz.func4 rfl rfl
def c5 : C := (.seq (.ops [kO 4 (.mov (kC 0))])
 (.seq (.seq (.ops [kO 8 (.mov (kT 0)),
 kO 9 (kA .lss (kT 8) (kC 1)),
 kO 10 (.mov (kT 9)),
 ⟨some 11,.mov (kT 0),(some (10,kF))⟩,
 ⟨some 12,kA .gtr (kT 11) (kC 6),(some (10,kF))⟩,
 kO 13 (.pick (kT 10) (.const (.bool kE)) (kT 12))])
 (.cond (kT 13) (.seq (.ops [kO 4 (.mov (kC 1))])
 .ret)
 .skip))
 (.seq (.seq (.ops [kO 5 (.mov (kC 0))])
 (.block 0 (.loop (.seq (.seq (.ops [kO 14 (.mov (kT 5)),
 kO 15 (.mov (kT 1)),
 kO 16 (.lenS (kT 15)),
 kO 17 (kA .lss (kT 14) (kT 16))])
 (.cond (kT 17) .skip
 (.exit 0)))
 (.seq (.block 1 (.seq (.ops [kO 20 (.mov (kT 1)),
 kO 21 (.mov (kT 5)),
 kO 22 (.idxS 2 (kT 20) (kT 21)),
 kO 23 (.idxA 2 1 (kT 22) (kC 0)),
 kO 24 (.load1 (kT 23)),
 kO 25 (.mov (kT 1)),
 kO 26 (.mov (kT 5)),
 kO 27 (.idxS 2 (kT 25) (kT 26)),
 kO 28 (.idxA 2 1 (kT 27) (kC 1)),
 kO 29 (.load1 (kT 28)),
 kO 6 (.mov (kT 24)),
 kO 7 (.mov (kT 29))])
 (.seq (.ops [kO 30 (.mov (kT 6)),
 kO 31 (kA .lss (kT 30) (kC 0)),
 kO 32 (.mov (kT 31)),
 ⟨some 33,.mov (kT 6),(some (32,kF))⟩,
 ⟨some 34,.mov (kT 7),(some (32,kF))⟩,
 ⟨some 35,kA .gtr (kT 33) (kT 34),(some (32,kF))⟩,
 kO 36 (.pick (kT 32) (.const (.bool kE)) (kT 35)),
 kO 37 (.mov (kT 36)),
 ⟨some 38,.mov (kT 7),(some (37,kF))⟩,
 ⟨some 39,.mov (kT 0),(some (37,kF))⟩,
 ⟨some 40,kA .geq (kT 38) (kT 39),(some (37,kF))⟩,
 kO 41 (.pick (kT 37) (.const (.bool kE)) (kT 40)),
 kO 42 (.mov (kT 41)),
 ⟨some 43,.mov (kT 5),(some (42,kF))⟩,
 ⟨some 44,kA .gtr (kT 43) (kC 0),(some (42,kF))⟩,
 ⟨some 45,.mov (kT 44),(some (42,kF))⟩,
 ⟨some 46,.mov (kT 1),(some (45,kE))⟩,
 ⟨some 47,.mov (kT 5),(some (45,kE))⟩,
 ⟨some 48,.idxS 2 (kT 46) (kT 47),(some (45,kE))⟩,
 ⟨some 49,.loadN 2 (kT 48),(some (45,kE))⟩,
 ⟨some 50,.mov (kT 1),(some (45,kE))⟩,
 ⟨some 51,.mov (kT 5),(some (45,kE))⟩,
 ⟨some 52,kA .sub (kT 51) (kC 1),(some (45,kE))⟩,
 ⟨some 53,.idxS 2 (kT 50) (kT 52),(some (45,kE))⟩,
 ⟨some 54,.loadN 2 (kT 53),(some (45,kE))⟩,
 ⟨some 55,.call 25 [.tmp 49,.tmp 54],(some (45,kE))⟩,
 ⟨some 56,.pick (kT 45) (kT 55) (.const (.bool kF)),(some (42,kF))⟩,
 kO 57 (.pick (kT 42) (.const (.bool kE)) (kT 56))])
 (.cond (kT 57) (.seq (.ops [kO 4 (.mov (kC 10))])
 .ret)
 .skip))))
 (.ops [kO 18 (.mov (kT 5)),
 kO 19 (kA .add (kT 18) (kC 1)),
 kO 5 (.mov (kT 19))]))))))
 (.seq (.seq (.ops [kO 58 (.mov (kT 1)),
 kO 59 (.lenS (kT 58)),
 kO 60 (kA .gtr (kT 59) (kC 9))])
 (.cond (kT 60) (.seq (.ops [kO 4 (.mov (kC 10))])
 .ret)
 .skip))
 (.seq (.ops [kO 4 (.mov (kC 0))])
 .ret)))))
theorem enter5 (hl : xs.length ≤ 61) (w : wq E 61 none c5 (frameOf xs) h [] (leaveQ E [.tmp 4] Q)) : CallP E 5 xs h Q :=
  CallP.enterQ (fn := Tryz.f5) (fn_get Tryz.func5) (code := Tryz.f5.body.get rfl) rfl rfl rfl (by kernel_rfl) rfl (fun _ => rfl) hl w
theorem can5 : callable E 5 = true := callable_get Tryz.func5 rfl rfl
def c6 : C := (.seq (.ops [kO 4 (.mov (kC 0))])
 (.seq (.seq (.ops [kO 7 (.mov (kT 0)),
 kO 8 (kA .lss (kT 7) (kC 1)),
 kO 9 (.mov (kT 8)),
 ⟨some 10,.mov (kT 0),(some (9,kF))⟩,
 ⟨some 11,kA .gtr (kT 10) (kC 6),(some (9,kF))⟩,
 kO 12 (.pick (kT 9) (.const (.bool kE)) (kT 11))])
 (.cond (kT 12) (.seq (.ops [kO 4 (.mov (kC 1))])
 .ret)
 .skip))
 (.seq (.seq (.ops [kO 13 (.mov (kT 1)),
 kO 14 (.lenS (kT 13)),
 kO 15 (kA .gtr (kT 14) (kC 9))])
 (.cond (kT 15) (.seq (.ops [kO 4 (.mov (kC 10))])
 .ret)
 .skip))
 (.seq (.seq (.ops [kO 16 (.mov (kT 1)),
 kO 17 (.lenS (kT 16)),
 kO 18 (.mov (kC 0))])
 (.block 0 (.loop (.seq (.ops [kO 19 (kA .lss (kT 18) (kT 17))])
 (.seq (.cond (kT 19) .skip
 (.exit 0))
 (.seq (.block 1 (.seq (.ops [kO 20 (.mov (kT 18)),
 kO 21 (.idxS 2 (kT 16) (kT 18)),
 kO 22 (.loadN 2 (kT 21)),
 kO 6 (.alloc 52 [kZ,kZ]),
 kO 5 (.mov (kT 20)),
 ⟨none,.store 2 (kT 6) (kT 22),none⟩])
 (.seq (.seq (.ops [kO 23 (.idxA 2 1 (kT 6) (kC 0)),
 kO 24 (.load1 (kT 23)),
 kO 25 (kA .lss (kT 24) (kC 0)),
 kO 26 (.mov (kT 25)),
 ⟨some 27,.idxA 2 1 (kT 6) (kC 0),(some (26,kF))⟩,
 ⟨some 28,.load1 (kT 27),(some (26,kF))⟩,
 ⟨some 29,.idxA 2 1 (kT 6) (kC 1),(some (26,kF))⟩,
 ⟨some 30,.load1 (kT 29),(some (26,kF))⟩,
 ⟨some 31,kA .gtr (kT 28) (kT 30),(some (26,kF))⟩,
 kO 32 (.pick (kT 26) (.const (.bool kE)) (kT 31)),
 kO 33 (.mov (kT 32)),
 ⟨some 34,.idxA 2 1 (kT 6) (kC 1),(some (33,kF))⟩,
 ⟨some 35,.load1 (kT 34),(some (33,kF))⟩,
 ⟨some 36,.mov (kT 0),(some (33,kF))⟩,
 ⟨some 37,kA .geq (kT 35) (kT 36),(some (33,kF))⟩,
 kO 38 (.pick (kT 33) (.const (.bool kE)) (kT 37))])
 (.cond (kT 38) (.seq (.ops [kO 4 (.mov (kC 10))])
 .ret)
 .skip))
 (.seq (.ops [kO 39 (.mov (kT 5)),
 kO 40 (kA .gtr (kT 39) (kC 0)),
 kO 41 (.mov (kT 40)),
 ⟨some 42,.loadN 2 (kT 6),(some (41,kE))⟩,
 ⟨some 43,.mov (kT 1),(some (41,kE))⟩,
 ⟨some 44,.mov (kT 5),(some (41,kE))⟩,
 ⟨some 45,kA .sub (kT 44) (kC 1),(some (41,kE))⟩,
 ⟨some 46,.idxS 2 (kT 43) (kT 45),(some (41,kE))⟩,
 ⟨some 47,.loadN 2 (kT 46),(some (41,kE))⟩,
 ⟨some 48,.call 26 [.tmp 42,.tmp 47],(some (41,kE))⟩,
 ⟨some 49,kA .lss (kT 48) (kC 0),(some (41,kE))⟩,
 kO 50 (.pick (kT 41) (kT 49) (.const (.bool kF)))])
 (.cond (kT 50) (.seq (.ops [kO 4 (.mov (kC 10))])
 .ret)
 .skip)))))
 (.ops [kO 51 (kA .add (kT 18) (kC 1)),
 kO 18 (.mov (kT 51))])))))))
 (.seq (.ops [kO 4 (.mov (kC 0))])
 .ret)))))
theorem enter6 (hl : xs.length ≤ 52) (w : wq E 52 none c6 (frameOf xs) h [] (leaveQ E [.tmp 4] Q)) : CallP E 6 xs h Q :=
  CallP.enterQ (fn := Tryz.f6) (fn_get Tryz.func6) (code := Tryz.f6.body.get rfl) rfl rfl rfl (by kernel_rfl) rfl (fun _ => rfl) hl w
theorem can6 : callable E 6 = true := callable_get Tryz.func6 rfl rfl
def c7 : C := (.seq (.ops [kO 2 (.box 3 (kT 0)),
 kO 4 (.mov (.const kN)),
 kO 5 (.mov (kC 0))])
 (.seq (.seq (.ops [kO 10 (.load1 (kT 2)),
 kO 11 (.mov (kT 1)),
 kO 12 (.call 6 [.tmp 10,.tmp 11]),
 kO 6 (.mov (kT 12))])
 (.seq (.ops [kO 13 (.mov (kT 6)),
 kO 14 (kA .neq (kT 13) (kC 0))])
 (.cond (kT 14) (.seq (.ops [kO 15 (.mov (kT 6)),
 kO 4 (.mov (.const kN)),
 kO 5 (.mov (kT 15))])
 .ret)
 .skip)))
 (.seq (.ops [kO 16 (.load1 (kT 2)),
 kO 17 (.mov (kT 1)),
 kO 18 (.aggr [kZ,kN] [(0,1,(kT 16)),(1,1,(kT 17))]),
 kO 7 (.alloc 56 [kZ,kN]),
 ⟨none,.store 2 (kT 7) (kT 18),none⟩])
 (.seq (.ops [kO 19 (.func (.func 27) [] [.tmp 2,.tmp 7]),
 kO 8 (.mov (kT 19))])
 (.seq (.ops [kO 9 (.mov (.func 29))])
 (.seq (.ops [kO 20 (.loadN 2 (kT 7)),
 kO 21 (.mov (kT 8)),
 kO 22 (.mov (kT 9)),
 kO 23 (.call 31 [.tmp 20,.tmp 21,.tmp 22]),
 kO 4 (.mov (kT 23)),
 kO 5 (.mov (kC 0))])
 .ret))))))
theorem enter7 (hl : xs.length ≤ 24) (w : wq E 24 none c7 (frameOf xs) h [] (leaveQ E [.tmp 4,.tmp 5] Q)) : CallP E 7 xs h Q :=
  CallP.enterQ (fn := Tryz.f7) (fn_get Tryz.func7) (code := Tryz.f7.body.get rfl) rfl rfl rfl (by kernel_rfl) rfl (fun _ => rfl) hl w
theorem can7 : callable E 7 = true := callable_get Tryz.func7 rfl rfl
def c8 : C := (.seq (.ops [kO 3 (.box 22 (kT 1)),
 kO 4 (.mov (.const kN)),
 kO 5 (.mov (kC 0))])
 (.seq (.seq (.ops [kO 10 (.mov (kT 0)),
 kO 11 (.load1 (kT 3)),
 kO 12 (.call 6 [.tmp 10,.tmp 11]),
 kO 6 (.mov (kT 12))])
 (.seq (.ops [kO 13 (.mov (kT 6)),
 kO 14 (kA .neq (kT 13) (kC 0))])
 (.cond (kT 14) (.seq (.ops [kO 15 (.mov (kT 6)),
 kO 4 (.mov (.const kN)),
 kO 5 (.mov (kT 15))])
 .ret)
 .skip)))
 (.seq (.ops [kO 16 (.mov (kT 0)),
 kO 17 (.load1 (kT 3)),
 kO 18 (.aggr [kZ,kN] [(0,1,(kT 16)),(1,1,(kT 17))]),
 kO 7 (.alloc 56 [kZ,kN]),
 ⟨none,.store 2 (kT 7) (kT 18),none⟩])
 (.seq (.ops [kO 19 (.func (.func 32) [] [.tmp 7]),
 kO 8 (.mov (kT 19))])
 (.seq (.ops [kO 20 (.func (.func 33) [] [.tmp 3]),
 kO 9 (.mov (kT 20))])
 (.seq (.ops [kO 21 (.loadN 2 (kT 7)),
 kO 22 (.mov (kT 8)),
 kO 23 (.mov (kT 9)),
 kO 24 (.call 31 [.tmp 21,.tmp 22,.tmp 23]),
 kO 4 (.mov (kT 24)),
 kO 5 (.mov (kC 0))])
 .ret))))))
theorem enter8 (hl : xs.length ≤ 25) (w : wq E 25 none c8 (frameOf xs) h [] (leaveQ E [.tmp 4,.tmp 5] Q)) : CallP E 8 xs h Q :=
  CallP.enterQ (fn := Tryz.f8) (fn_get Tryz.func8) (code := Tryz.f8.body.get rfl) rfl rfl rfl (by kernel_rfl) rfl (fun _ => rfl) hl w
theorem can8 : callable E 8 = true := callable_get Tryz.func8 rfl rfl
def c9 : C := (.seq (.ops [kO 4 (.mov (.const kN)),
 kO 5 (.mov (kC 0))])
 (.seq (.seq (.ops [kO 8 (.mov (kT 0)),
 kO 9 (.mov (kT 1)),
 kO 10 (.call 6 [.tmp 8,.tmp 9]),
 kO 6 (.mov (kT 10))])
 (.seq (.ops [kO 11 (.mov (kT 6)),
 kO 12 (kA .neq (kT 11) (kC 0))])
 (.cond (kT 12) (.seq (.ops [kO 13 (.mov (kT 6)),
 kO 4 (.mov (.const kN)),
 kO 5 (.mov (kT 13))])
 .ret)
 .skip)))
 (.seq (.ops [kO 14 (.newMap),
 kO 15 (.mov (kT 0)),
 kO 16 (.mov (kT 1)),
 kO 17 (.aggr [kZ,kN] [(0,1,(kT 15)),(1,1,(kT 16))]),
 kO 18 (.call 34 [.tmp 14,.tmp 17]),
 kO 7 (.mov (kT 18))])
 (.seq (.ops [kO 19 (.mov (kT 7)),
 kO 20 (.call 35 [.tmp 19]),
 kO 4 (.mov (kT 20)),
 kO 5 (.mov (kC 0))])
 .ret))))
theorem enter9 (hl : xs.length ≤ 21) (w : wq E 21 none c9 (frameOf xs) h [] (leaveQ E [.tmp 4,.tmp 5] Q)) : CallP E 9 xs h Q :=
  CallP.enterQ (fn := Tryz.f9) (fn_get Tryz.func9) (code := Tryz.f9.body.get rfl) rfl rfl rfl (by kernel_rfl) rfl (fun _ => rfl) hl w
theorem can9 : callable E 9 = true := callable_get Tryz.func9 rfl rfl
def c10 : C := (.seq (.ops [kO 8 (.mov (kC 0)),
 kO 9 (.mov (kC 0))])
 (.seq (.ops [kO 16 (.mov (kT 0)),
 kO 17 (.mov (kT 1)),
 kO 18 (.call 9 [.tmp 16,.tmp 17]),
 kO 15 (.mov (kT 18)),
 kO 19 (.ext (kT 15) 0),
 kO 20 (.ext (kT 15) 1),
 kO 10 (.mov (kT 19)),
 kO 11 (.mov (kT 20))])
 (.seq (.seq (.ops [kO 21 (.mov (kT 11)),
 kO 22 (kA .neq (kT 21) (kC 0))])
 (.cond (kT 22) (.seq (.ops [kO 23 (.mov (kT 11)),
 kO 8 (.mov (kC 0)),
 kO 9 (.mov (kT 23))])
 .ret)
 .skip))
 (.seq (.seq (.ops [kO 24 (.mov (kT 2)),
 kO 25 (kA .lss (kT 24) (.const (.int .i64 (-10)))),
 kO 26 (.mov (kT 25)),
 ⟨some 27,.mov (kT 2),(some (26,kF))⟩,
 ⟨some 28,kA .gtr (kT 27) (kC 10),(some (26,kF))⟩,
 kO 29 (.pick (kT 26) (.const (.bool kE)) (kT 28)),
 kO 30 (.mov (kT 29)),
 ⟨some 31,.mov (kT 3),(some (30,kF))⟩,
 ⟨some 32,kA .lss (kT 31) (.const (.int .i64 (-10))),(some (30,kF))⟩,
 kO 33 (.pick (kT 30) (.const (.bool kE)) (kT 32)),
 kO 34 (.mov (kT 33)),
 ⟨some 35,.mov (kT 3),(some (34,kF))⟩,
 ⟨some 36,kA .gtr (kT 35) (kC 10),(some (34,kF))⟩,
 kO 37 (.pick (kT 34) (.const (.bool kE)) (kT 36))])
 (.cond (kT 37) (.seq (.ops [kO 8 (.mov (kC 0)),
 kO 9 (.mov (kC 1))])
 .ret)
 .skip))
 (.seq (.ops [kO 38 (.mov (kT 10)),
 kO 39 (.lenS (kT 38)),
 kO 40 (.make 2 [kZ] 8 (kT 39) (kT 39)),
 kO 12 (.mov (kT 40))])
 (.seq (.seq (.ops [kO 41 (.mov (kT 10)),
 kO 42 (.lenS (kT 41)),
 kO 43 (.mov (kC 0))])
 (.block 0 (.loop (.seq (.ops [kO 44 (kA .lss (kT 43) (kT 42))])
 (.seq (.cond (kT 44) .skip
 (.exit 0))
 (.seq (.block 1 (.seq (.ops [kO 45 (.mov (kT 43)),
 kO 46 (.idxS 1 (kT 41) (kT 43)),
 kO 47 (.load1 (kT 46)),
 kO 13 (.mov (kT 45)),
 kO 14 (.mov (kT 47))])
 (.ops [kO 48 (.mov (kT 12)),
 kO 49 (.mov (kT 13)),
 kO 50 (.mov (kT 14)),
 kO 51 (.mov (kT 3)),
 kO 52 (.call 36 [.tmp 50,.tmp 51]),
 kO 53 (.idxS 1 (kT 48) (kT 49)),
 ⟨none,.store 1 (kT 53) (kT 52),none⟩])))
 (.ops [kO 54 (kA .add (kT 43) (kC 1)),
 kO 43 (.mov (kT 54))])))))))
 (.seq (.ops [kO 55 (.mov (kT 12)),
 kO 56 (.mov (kT 2)),
 kO 57 (.call 36 [.tmp 55,.tmp 56]),
 kO 8 (.mov (kT 57)),
 kO 9 (.mov (kC 0))])
 .ret)))))))
theorem enter10 (hl : xs.length ≤ 58) (w : wq E 58 none c10 (frameOf xs) h [] (leaveQ E [.tmp 8,.tmp 9] Q)) : CallP E 10 xs h Q :=
  CallP.enterQ (fn := Tryz.f10) (fn_get Tryz.func10) (code := Tryz.f10.body.get rfl) rfl rfl rfl (by kernel_rfl) rfl (fun _ => rfl) hl w
theorem can10 : callable E 10 = true := callable_get Tryz.func10 rfl rfl
def c11 : C := (.seq (.ops [kO 6 (.mov (.const kN)),
 kO 7 (.mov (.const (.bool kF))),
 kO 8 (.mov (kC 0))])
 (.seq (.seq (.ops [kO 12 (.mov (kT 0)),
 kO 13 (.mov (kT 1)),
 kO 14 (.call 6 [.tmp 12,.tmp 13]),
 kO 9 (.mov (kT 14))])
 (.seq (.ops [kO 15 (.mov (kT 9)),
 kO 16 (kA .neq (kT 15) (kC 0))])
 (.cond (kT 16) (.seq (.ops [kO 17 (.mov (kT 9)),
 kO 6 (.mov (.const kN)),
 kO 7 (.mov (.const (.bool kF))),
 kO 8 (.mov (kT 17))])
 .ret)
 .skip)))
 (.seq (.seq (.ops [kO 18 (.mov (kT 2)),
 kO 19 (kA .lss (kT 18) (kC 0)),
 kO 20 (.mov (kT 19)),
 ⟨some 21,.mov (kT 2),(some (20,kF))⟩,
 ⟨some 22,kA .gtr (kT 21) (kC 10),(some (20,kF))⟩,
 kO 23 (.pick (kT 20) (.const (.bool kE)) (kT 22))])
 (.cond (kT 23) (.seq (.ops [kO 6 (.mov (.const kN)),
 kO 7 (.mov (.const (.bool kF))),
 kO 8 (.mov (kC 1))])
 .ret)
 .skip))
 (.seq (.ops [kO 25 (.mov (kT 0)),
 kO 26 (.mov (kT 1)),
 kO 27 (.aggr [kZ,kN] [(0,1,(kT 25)),(1,1,(kT 26))]),
 kO 28 (.mov (kT 2)),
 kO 29 (.call 37 [.tmp 27,.tmp 28]),
 kO 24 (.mov (kT 29)),
 kO 30 (.ext (kT 24) 0),
 kO 31 (.ext (kT 24) 1),
 kO 10 (.mov (kT 30)),
 kO 11 (.mov (kT 31))])
 (.seq (.ops [kO 32 (.mov (kT 10)),
 kO 33 (.mov (kT 11)),
 kO 6 (.mov (kT 32)),
 kO 7 (.mov (kT 33)),
 kO 8 (.mov (kC 0))])
 .ret)))))
theorem enter11 (hl : xs.length ≤ 34) (w : wq E 34 none c11 (frameOf xs) h [] (leaveQ E [.tmp 6,.tmp 7,.tmp 8] Q)) : CallP E 11 xs h Q :=
  CallP.enterQ (fn := Tryz.f11) (fn_get Tryz.func11) (code := Tryz.f11.body.get rfl) rfl rfl rfl (by kernel_rfl) rfl (fun _ => rfl) hl w
theorem can11 : callable E 11 = true := callable_get Tryz.func11 rfl rfl
def c12 : C := (.seq (.ops [kO 6 (.mov (.const kN)),
 kO 7 (.mov (.const (.bool kF))),
 kO 8 (.mov (kC 0))])
 (.seq (.seq (.ops [kO 12 (.mov (kT 0)),
 kO 13 (.mov (kT 1)),
 kO 14 (.mov (kT 2)),
 kO 15 (.call 38 [.tmp 12,.tmp 13,.tmp 14]),
 kO 9 (.mov (kT 15))])
 (.seq (.ops [kO 16 (.mov (kT 9)),
 kO 17 (kA .neq (kT 16) (kC 0))])
 (.cond (kT 17) (.seq (.ops [kO 18 (.mov (kT 9)),
 kO 6 (.mov (.const kN)),
 kO 7 (.mov (.const (.bool kF))),
 kO 8 (.mov (kT 18))])
 .ret)
 .skip)))
 (.seq (.ops [kO 20 (.mov (kT 0)),
 kO 21 (.mov (kT 1)),
 kO 22 (.aggr [kZ,kN] [(0,1,(kT 20)),(1,1,(kT 21))]),
 kO 23 (.mov (kT 2)),
 kO 24 (.call 39 [.tmp 22,.tmp 23]),
 kO 19 (.mov (kT 24)),
 kO 25 (.ext (kT 19) 0),
 kO 26 (.ext (kT 19) 1),
 kO 10 (.mov (kT 25)),
 kO 11 (.mov (kT 26))])
 (.seq (.ops [kO 27 (.mov (kT 10)),
 kO 28 (.mov (kT 11)),
 kO 6 (.mov (kT 27)),
 kO 7 (.mov (kT 28)),
 kO 8 (.mov (kC 0))])
 .ret))))
theorem enter12 (hl : xs.length ≤ 29) (w : wq E 29 none c12 (frameOf xs) h [] (leaveQ E [.tmp 6,.tmp 7,.tmp 8] Q)) : CallP E 12 xs h Q :=
  CallP.enterQ (fn := Tryz.f12) (fn_get Tryz.func12) (code := Tryz.f12.body.get rfl) rfl rfl rfl (by kernel_rfl) rfl (fun _ => rfl) hl w
theorem can12 : callable E 12 = true := callable_get Tryz.func12 rfl rfl
def c13 : C := (.seq (.ops [kO 8 (.mov (.const (.bool kF))),
 kO 9 (.mov (kC 0))])
 (.seq (.seq (.ops [kO 11 (.mov (kT 0)),
 kO 12 (.mov (kT 1)),
 kO 13 (.mov (kT 2)),
 kO 14 (.call 38 [.tmp 11,.tmp 12,.tmp 13]),
 kO 10 (.mov (kT 14))])
 (.seq (.ops [kO 15 (.mov (kT 10)),
 kO 16 (kA .neq (kT 15) (kC 0))])
 (.cond (kT 16) (.seq (.ops [kO 17 (.mov (kT 10)),
 kO 8 (.mov (.const (.bool kF))),
 kO 9 (.mov (kT 17))])
 .ret)
 .skip)))
 (.seq (.ops [kO 18 (.mov (kT 0)),
 kO 19 (.mov (kT 1)),
 kO 20 (.aggr [kZ,kN] [(0,1,(kT 18)),(1,1,(kT 19))]),
 kO 21 (.mov (kT 2)),
 kO 22 (.mov (kT 3)),
 kO 23 (.call 40 [.tmp 20,.tmp 21,.tmp 22]),
 kO 8 (.mov (kT 23)),
 kO 9 (.mov (kC 0))])
 .ret)))
theorem enter13 (hl : xs.length ≤ 24) (w : wq E 24 none c13 (frameOf xs) h [] (leaveQ E [.tmp 8,.tmp 9] Q)) : CallP E 13 xs h Q :=
  CallP.enterQ (fn := Tryz.f13) (fn_get Tryz.func13) (code := Tryz.f13.body.get rfl) rfl rfl rfl (by kernel_rfl) rfl (fun _ => rfl) hl w
theorem can13 : callable E 13 = true := callable_get Tryz.func13 rfl rfl
def c14 : C := (.seq (.ops [kO 4 (.mov (kC 0)),
 kO 5 (.mov (kC 0))])
 (.seq (.seq (.ops [kO 8 (.mov (kT 0)),
 kO 9 (.mov (kT 1)),
 kO 10 (.call 6 [.tmp 8,.tmp 9]),
 kO 6 (.mov (kT 10))])
 (.seq (.ops [kO 11 (.mov (kT 6)),
 kO 12 (kA .neq (kT 11) (kC 0))])
 (.cond (kT 12) (.seq (.ops [kO 13 (.mov (kT 6)),
 kO 4 (.mov (kC 0)),
 kO 5 (.mov (kT 13))])
 .ret)
 .skip)))
 (.seq (.ops [kO 14 (.mov (kT 0)),
 kO 15 (.mov (kT 1)),
 kO 16 (.aggr [kZ,kN] [(0,1,(kT 14)),(1,1,(kT 15))]),
 kO 7 (.alloc 56 [kZ,kN]),
 ⟨none,.store 2 (kT 7) (kT 16),none⟩])
 (.seq (.ops [kO 17 (.loadN 2 (kT 7)),
 kO 18 (.loadN 2 (kT 7)),
 kO 19 (.func (.func 42) [.tmp 18] []),
 kO 20 (.call 41 [.tmp 17,.tmp 19]),
 kO 4 (.mov (kT 20)),
 kO 5 (.mov (kC 0))])
 .ret))))
theorem enter14 (hl : xs.length ≤ 21) (w : wq E 21 none c14 (frameOf xs) h [] (leaveQ E [.tmp 4,.tmp 5] Q)) : CallP E 14 xs h Q :=
  CallP.enterQ (fn := Tryz.f14) (fn_get Tryz.func14) (code := Tryz.f14.body.get rfl) rfl rfl rfl (by kernel_rfl) rfl (fun _ => rfl) hl w
theorem can14 : callable E 14 = true := callable_get Tryz.func14 rfl rfl
def c15 : C := (.seq (.ops [kO 4 (.mov (kC 0)),
 kO 5 (.mov (kC 0))])
 (.seq (.seq (.ops [kO 8 (.mov (kT 0)),
 kO 9 (.mov (kT 1)),
 kO 10 (.call 6 [.tmp 8,.tmp 9]),
 kO 6 (.mov (kT 10))])
 (.seq (.ops [kO 11 (.mov (kT 6)),
 kO 12 (kA .neq (kT 11) (kC 0))])
 (.cond (kT 12) (.seq (.ops [kO 13 (.mov (kT 6)),
 kO 4 (.mov (kC 0)),
 kO 5 (.mov (kT 13))])
 .ret)
 .skip)))
 (.seq (.ops [kO 14 (.mov (kT 0)),
 kO 15 (.mov (kT 1)),
 kO 16 (.aggr [kZ,kN] [(0,1,(kT 14)),(1,1,(kT 15))]),
 kO 7 (.alloc 56 [kZ,kN]),
 ⟨none,.store 2 (kT 7) (kT 16),none⟩])
 (.seq (.ops [kO 17 (.loadN 2 (kT 7)),
 kO 18 (.loadN 2 (kT 7)),
 kO 19 (.func (.func 43) [.tmp 18] []),
 kO 20 (.call 41 [.tmp 17,.tmp 19]),
 kO 4 (.mov (kT 20)),
 kO 5 (.mov (kC 0))])
 .ret))))
theorem enter15 (hl : xs.length ≤ 21) (w : wq E 21 none c15 (frameOf xs) h [] (leaveQ E [.tmp 4,.tmp 5] Q)) : CallP E 15 xs h Q :=
  CallP.enterQ (fn := Tryz.f15) (fn_get Tryz.func15) (code := Tryz.f15.body.get rfl) rfl rfl rfl (by kernel_rfl) rfl (fun _ => rfl) hl w
theorem can15 : callable E 15 = true := callable_get Tryz.func15 rfl rfl
def c16 : C := (.seq (.ops [kO 4 (.mov (.const kN)),
 kO 5 (.mov (kC 0))])
 (.seq (.seq (.ops [kO 10 (.mov (kT 0)),
 kO 11 (.mov (kT 1)),
 kO 12 (.call 6 [.tmp 10,.tmp 11]),
 kO 6 (.mov (kT 12))])
 (.seq (.ops [kO 13 (.mov (kT 6)),
 kO 14 (kA .neq (kT 13) (kC 0))])
 (.cond (kT 14) (.seq (.ops [kO 15 (.mov (kT 6)),
 kO 4 (.mov (.const kN)),
 kO 5 (.mov (kT 15))])
 .ret)
 .skip)))
 (.seq (.ops [kO 16 (.mov (kT 0)),
 kO 17 (.mov (kT 1)),
 kO 18 (.aggr [kZ,kN] [(0,1,(kT 16)),(1,1,(kT 17))]),
 kO 7 (.alloc 56 [kZ,kN]),
 ⟨none,.store 2 (kT 7) (kT 18),none⟩])
 (.seq (.ops [kO 8 (.alloc 35 [kN])])
 (.seq (.seq (.ops [kO 19 (.mov (kT 1)),
 kO 20 (.lenS (kT 19)),
 kO 21 (.call 44 [.tmp 20])])
 (.block 0 (.range (kT 21) ⟨[22]⟩ (.ops [kO 9 (.mov (kT 22))])
 (.block 1 (.seq (.ops [kO 23 (.loadN 2 (kT 7)),
 kO 24 (.mov (kT 9)),
 kO 25 (.call 45 [.tmp 23,.tmp 24])])
 (.cond (kT 25) (.ops [kO 26 (.load1 (kT 8)),
 kO 27 (.mov (kT 9)),
 kO 28 (.slit 3 1 [kZ] [(0,1,(kT 27))]),
 kO 29 (.append 3 1 8 (kT 26) (kT 28)),
 ⟨none,.store 1 (kT 8) (kT 29),none⟩])
 .skip))))))
 (.seq (.ops [kO 30 (.load1 (kT 8)),
 kO 4 (.mov (kT 30)),
 kO 5 (.mov (kC 0))])
 .ret))))))
theorem enter16 (hl : xs.length ≤ 31) (w : wq E 31 none c16 (frameOf xs) h [] (leaveQ E [.tmp 4,.tmp 5] Q)) : CallP E 16 xs h Q :=
  CallP.enterQ (fn := Tryz.f16) (fn_get Tryz.func16) (code := Tryz.f16.body.get rfl) rfl rfl rfl (by kernel_rfl) rfl (fun _ => rfl) hl w
theorem can16 : callable E 16 = true := callable_get Tryz.func16 rfl rfl
def c17 : C := (.seq (.ops [kO 6 (.mov (kC 0)),
 kO 7 (.mov (kC 0))])
 (.seq (.ops [kO 11 (.mov (kT 0)),
 kO 12 (.mov (kT 1)),
 kO 13 (.mov (kT 2)),
 kO 14 (.call 46 [.tmp 11,.tmp 12,.tmp 13]),
 kO 10 (.mov (kT 14)),
 kO 15 (.ext (kT 10) 0),
 kO 16 (.ext (kT 10) 1),
 kO 8 (.alloc 56 [kZ,kN]),
 ⟨none,.store 2 (kT 8) (kT 15),none⟩,
 kO 9 (.mov (kT 16))])
 (.seq (.seq (.ops [kO 17 (.mov (kT 9)),
 kO 18 (kA .neq (kT 17) (kC 0))])
 (.cond (kT 18) (.seq (.ops [kO 19 (.mov (kT 9)),
 kO 6 (.mov (kC 0)),
 kO 7 (.mov (kT 19))])
 .ret)
 .skip))
 (.seq (.ops [kO 20 (.loadN 2 (kT 8)),
 kO 21 (.mov (kT 2)),
 kO 22 (.call 28 [.tmp 20,.tmp 21]),
 kO 6 (.mov (kT 22)),
 kO 7 (.mov (kC 0))])
 .ret))))
theorem enter17 (hl : xs.length ≤ 23) (w : wq E 23 none c17 (frameOf xs) h [] (leaveQ E [.tmp 6,.tmp 7] Q)) : CallP E 17 xs h Q :=
  CallP.enterQ (fn := Tryz.f17) (fn_get Tryz.func17) (code := Tryz.f17.body.get rfl) rfl rfl rfl (by kernel_rfl) rfl (fun _ => rfl) hl w
theorem can17 : callable E 17 = true := callable_get Tryz.func17 rfl rfl
def c18 : C := (.seq (.ops [kO 6 (.mov (.const (.bool kF))),
 kO 7 (.mov (kC 0))])
 (.seq (.ops [kO 11 (.mov (kT 0)),
 kO 12 (.mov (kT 1)),
 kO 13 (.mov (kT 2)),
 kO 14 (.call 46 [.tmp 11,.tmp 12,.tmp 13]),
 kO 10 (.mov (kT 14)),
 kO 15 (.ext (kT 10) 0),
 kO 16 (.ext (kT 10) 1),
 kO 8 (.alloc 56 [kZ,kN]),
 ⟨none,.store 2 (kT 8) (kT 15),none⟩,
 kO 9 (.mov (kT 16))])
 (.seq (.seq (.ops [kO 17 (.mov (kT 9)),
 kO 18 (kA .neq (kT 17) (kC 0))])
 (.cond (kT 18) (.seq (.ops [kO 19 (.mov (kT 9)),
 kO 6 (.mov (.const (.bool kF))),
 kO 7 (.mov (kT 19))])
 .ret)
 .skip))
 (.seq (.ops [kO 20 (.loadN 2 (kT 8)),
 kO 21 (.mov (kT 2)),
 kO 22 (.call 42 [.tmp 20,.tmp 21]),
 kO 6 (.mov (kT 22)),
 kO 7 (.mov (kC 0))])
 .ret))))
theorem enter18 (hl : xs.length ≤ 23) (w : wq E 23 none c18 (frameOf xs) h [] (leaveQ E [.tmp 6,.tmp 7] Q)) : CallP E 18 xs h Q :=
  CallP.enterQ (fn := Tryz.f18) (fn_get Tryz.func18) (code := Tryz.f18.body.get rfl) rfl rfl rfl (by kernel_rfl) rfl (fun _ => rfl) hl w
theorem can18 : callable E 18 = true := callable_get Tryz.func18 rfl rfl
def c19 : C := (.seq (.ops [kO 6 (.mov (.const (.bool kF))),
 kO 7 (.mov (kC 0))])
 (.seq (.ops [kO 11 (.mov (kT 0)),
 kO 12 (.mov (kT 1)),
 kO 13 (.mov (kT 2)),
 kO 14 (.call 46 [.tmp 11,.tmp 12,.tmp 13]),
 kO 10 (.mov (kT 14)),
 kO 15 (.ext (kT 10) 0),
 kO 16 (.ext (kT 10) 1),
 kO 8 (.alloc 56 [kZ,kN]),
 ⟨none,.store 2 (kT 8) (kT 15),none⟩,
 kO 9 (.mov (kT 16))])
 (.seq (.seq (.ops [kO 17 (.mov (kT 9)),
 kO 18 (kA .neq (kT 17) (kC 0))])
 (.cond (kT 18) (.seq (.ops [kO 19 (.mov (kT 9)),
 kO 6 (.mov (.const (.bool kF))),
 kO 7 (.mov (kT 19))])
 .ret)
 .skip))
 (.seq (.ops [kO 20 (.loadN 2 (kT 8)),
 kO 21 (.mov (kT 2)),
 kO 22 (.call 43 [.tmp 20,.tmp 21]),
 kO 6 (.mov (kT 22)),
 kO 7 (.mov (kC 0))])
 .ret))))
theorem enter19 (hl : xs.length ≤ 23) (w : wq E 23 none c19 (frameOf xs) h [] (leaveQ E [.tmp 6,.tmp 7] Q)) : CallP E 19 xs h Q :=
  CallP.enterQ (fn := Tryz.f19) (fn_get Tryz.func19) (code := Tryz.f19.body.get rfl) rfl rfl rfl (by kernel_rfl) rfl (fun _ => rfl) hl w
theorem can19 : callable E 19 = true := callable_get Tryz.func19 rfl rfl
def c20 : C := (.seq (.ops [kO 6 (.mov (kC 0)),
 kO 7 (.mov (kC 0)),
 kO 8 (.mov (kC 0))])
 (.seq (.ops [kO 12 (.mov (kT 0)),
 kO 13 (.mov (kT 1)),
 kO 14 (.mov (kT 2)),
 kO 15 (.call 46 [.tmp 12,.tmp 13,.tmp 14]),
 kO 11 (.mov (kT 15)),
 kO 16 (.ext (kT 11) 0),
 kO 17 (.ext (kT 11) 1),
 kO 9 (.alloc 56 [kZ,kN]),
 ⟨none,.store 2 (kT 9) (kT 16),none⟩,
 kO 8 (.mov (kT 17))])
 (.seq (.seq (.ops [kO 18 (.mov (kT 8)),
 kO 19 (kA .neq (kT 18) (kC 0))])
 (.cond (kT 19) (.seq (.ops [kO 20 (.mov (kT 8)),
 kO 6 (.mov (kC 0)),
 kO 7 (.mov (kC 0)),
 kO 8 (.mov (kT 20))])
 .ret)
 .skip))
 (.seq (.seq (.ops [kO 21 (.loadN 2 (kT 9)),
 kO 22 (.mov (kT 2)),
 kO 23 (.call 45 [.tmp 21,.tmp 22]),
 kO 24 (.not (kT 23))])
 (.cond (kT 24) (.seq (.ops [kO 6 (.mov (kC 0)),
 kO 7 (.mov (kC 0)),
 kO 8 (.mov (kC 1))])
 .ret)
 .skip))
 (.seq (.seq (.ops [kO 25 (.mov (kT 1)),
 kO 26 (.lenS (kT 25)),
 kO 27 (.mov (kC 0))])
 (.block 0 (.loop (.seq (.ops [kO 28 (kA .lss (kT 27) (kT 26))])
 (.seq (.cond (kT 28) .skip
 (.exit 0))
 (.seq (.block 1 (.seq (.ops [kO 29 (.mov (kT 27)),
 kO 10 (.mov (kT 29))])
 (.block 2 (.seq (.ops [kO 33 (.loadN 2 (kT 9)),
 kO 34 (.mov (kT 2)),
 kO 35 (.mov (kT 10)),
 kO 36 (.call 47 [.tmp 33,.tmp 34,.tmp 35]),
 kO 37 (.not (kT 36)),
 kO 32 (.mov (kT 37))])
 (.cond (kT 32) .skip
 (.seq (.ops [kO 39 (.mov (kT 2)),
 kO 40 (.mov (kT 10)),
 kO 41 (.call 48 [.tmp 39,.tmp 40]),
 kO 38 (.mov (kT 41))])
 (.cond (kT 38) (.ops [kO 42 (.mov (kT 6)),
 kO 43 (kA .add (kT 42) (kC 1)),
 kO 6 (.mov (kT 43))])
 (.ops [kO 30 (.mov (kT 7)),
 kO 31 (kA .add (kT 30) (kC 1)),
 kO 7 (.mov (kT 31))]))))))))
 (.ops [kO 44 (kA .add (kT 27) (kC 1)),
 kO 27 (.mov (kT 44))])))))))
 (.seq (.ops [kO 45 (.mov (kT 6)),
 kO 46 (.mov (kT 7)),
 kO 6 (.mov (kT 45)),
 kO 7 (.mov (kT 46)),
 kO 8 (.mov (kC 0))])
 .ret))))))
theorem enter20 (hl : xs.length ≤ 47) (w : wq E 47 none c20 (frameOf xs) h [] (leaveQ E [.tmp 6,.tmp 7,.tmp 8] Q)) : CallP E 20 xs h Q :=
  CallP.enterQ (fn := Tryz.f20) (fn_get Tryz.func20) (code := Tryz.f20.body.get rfl) rfl rfl rfl (by kernel_rfl) rfl (fun _ => rfl) hl w
theorem can20 : callable E 20 = true := callable_get Tryz.func20 rfl rfl
def c21 : C := (.seq (.ops [kO 6 (.mov (kC 0)),
 kO 7 (.mov (kC 0))])
 (.seq (.seq (.ops [kO 12 (.mov (kT 0)),
 kO 13 (.mov (kT 1)),
 kO 14 (.call 6 [.tmp 12,.tmp 13]),
 kO 8 (.mov (kT 14))])
 (.seq (.ops [kO 15 (.mov (kT 8)),
 kO 16 (kA .neq (kT 15) (kC 0))])
 (.cond (kT 16) (.seq (.ops [kO 17 (.mov (kT 8)),
 kO 6 (.mov (kC 0)),
 kO 7 (.mov (kT 17))])
 .ret)
 .skip)))
 (.seq (.seq (.ops [kO 18 (.mov (kT 2)),
 kO 19 (kA .lss (kT 18) (kC 0)),
 kO 20 (.mov (kT 19)),
 ⟨some 21,.mov (kT 2),(some (20,kF))⟩,
 ⟨some 22,.mov (kT 0),(some (20,kF))⟩,
 ⟨some 23,kA .geq (kT 21) (kT 22),(some (20,kF))⟩,
 kO 24 (.pick (kT 20) (.const (.bool kE)) (kT 23))])
 (.cond (kT 24) (.seq (.ops [kO 6 (.mov (kC 0)),
 kO 7 (.mov (kC 1))])
 .ret)
 .skip))
 (.seq (.ops [kO 25 (.mov (kT 0)),
 kO 26 (.mov (kT 1)),
 kO 27 (.aggr [kZ,kN] [(0,1,(kT 25)),(1,1,(kT 26))]),
 kO 9 (.alloc 56 [kZ,kN]),
 ⟨none,.store 2 (kT 9) (kT 27),none⟩])
 (.seq (.draw [kO 28 (.mov (kT 0)),
 kO 29 (kA .shl (kC 1) (kT 28)),
 kO 30 (kA .sub (kT 29) (kC 1)),
 kO 31 (.mov (kT 2)),
 kO 32 (kA .shl (kC 1) (kT 31)),
 kO 33 (kA .andNot (kT 30) (kT 32)),
 kO 10 (.alloc 3 [kZ]),
 ⟨none,.store 1 (kT 10) (kT 33),none⟩]
 [⟨kF,kE,fL1,fL0⟩,
 ⟨kF,kE,fL1,fL0⟩,
 ⟨kF,kE,fL1,fL0⟩,
 ⟨kF,kE,fL1,fL0⟩,
 ⟨kF,kE,fL1,fL0⟩,
 ⟨kF,kE,fL1,fL0⟩,
 ⟨kE,kF,fL1,fL0⟩,
 ⟨kE,kF,fL0,[kF,kF,kF,kF,kF,kF,kE,kE]⟩])
 (.seq (.ops [kO 34 (.func (.func 49) [] [.tmp 9,.tmp 10]),
 kO 11 (.mov (kT 34))])
 (.seq (.ops [kO 35 (.loadN 2 (kT 9)),
 kO 36 (.mov (kT 11)),
 kO 37 (.call 41 [.tmp 35,.tmp 36]),
 kO 6 (.mov (kT 37)),
 kO 7 (.mov (kC 0))])
 .ret)))))))
theorem enter21 (hl : xs.length ≤ 38) (w : wq E 38 none c21 (frameOf xs) h [] (leaveQ E [.tmp 6,.tmp 7] Q)) : CallP E 21 xs h Q :=
  CallP.enterQ (fn := Tryz.f21) (fn_get Tryz.func21) (code := Tryz.f21.body.get rfl) rfl rfl rfl (by kernel_rfl) rfl (fun _ => rfl) hl w
theorem can21 : callable E 21 = true := callable_get Tryz.func21 rfl rfl
theorem memo22 {h : Hp} {Q : Value → Hp → Prop} (q : Q (.bool true) h) : CallP E 22 [] h Q := CallP.memo rfl q
def c23 : C := (.seq (.ops [kO 6 (.mov (kC 0)),
 kO 7 (.mov (.const kN)),
 kO 8 (.mov (kC 0))])
 (.seq (.ops [kO 13 (.mov (kT 0)),
 kO 14 (.mov (kT 1)),
 kO 15 (.mov (kT 2)),
 kO 16 (.call 53 [.tmp 13,.tmp 14,.tmp 15]),
 kO 12 (.mov (kT 16)),
 kO 17 (.ext (kT 12) 0),
 kO 18 (.ext (kT 12) 1),
 kO 9 (.alloc 56 [kZ,kN]),
 ⟨none,.store 2 (kT 9) (kT 17),none⟩,
 kO 10 (.mov (kT 18))])
 (.seq (.seq (.ops [kO 19 (.mov (kT 10)),
 kO 20 (kA .neq (kT 19) (kC 0))])
 (.cond (kT 20) (.seq (.ops [kO 21 (.mov (kT 10)),
 kO 6 (.mov (kC 0)),
 kO 7 (.mov (.const kN)),
 kO 8 (.mov (kT 21))])
 .ret)
 .skip))
 (.seq (.ops [kO 22 (.loadN 2 (kT 9)),
 kO 23 (.mov (kT 2)),
 kO 24 (.call 54 [.tmp 22,.tmp 23]),
 kO 11 (.alloc 56 [kZ,kN]),
 ⟨none,.store 2 (kT 11) (kT 24),none⟩])
 (.seq (.ops [kO 25 (.fldA 0 (kT 11)),
 kO 26 (.load1 (kT 25)),
 kO 27 (.fldA 1 (kT 11)),
 kO 28 (.load1 (kT 27)),
 kO 6 (.mov (kT 26)),
 kO 7 (.mov (kT 28)),
 kO 8 (.mov (kC 0))])
 .ret)))))
theorem enter23 (hl : xs.length ≤ 29) (w : wq E 29 none c23 (frameOf xs) h [] (leaveQ E [.tmp 6,.tmp 7,.tmp 8] Q)) : CallP E 23 xs h Q :=
  CallP.enterQ (fn := Tryz.f23) (fn_get Tryz.func23) (code := Tryz.f23.body.get rfl) rfl rfl rfl (by kernel_rfl) rfl (fun _ => rfl) hl w
theorem can23 : callable E 23 = true := callable_get Tryz.func23 rfl rfl
def c24 : C := (.seq (.ops [kO 6 (.mov (kC 0)),
 kO 7 (.mov (.const kN)),
 kO 8 (.mov (kC 0))])
 (.seq (.ops [kO 13 (.mov (kT 0)),
 kO 14 (.mov (kT 1)),
 kO 15 (.mov (kT 2)),
 kO 16 (.call 53 [.tmp 13,.tmp 14,.tmp 15]),
 kO 12 (.mov (kT 16)),
 kO 17 (.ext (kT 12) 0),
 kO 18 (.ext (kT 12) 1),
 kO 9 (.alloc 56 [kZ,kN]),
 ⟨none,.store 2 (kT 9) (kT 17),none⟩,
 kO 10 (.mov (kT 18))])
 (.seq (.seq (.ops [kO 19 (.mov (kT 10)),
 kO 20 (kA .neq (kT 19) (kC 0))])
 (.cond (kT 20) (.seq (.ops [kO 21 (.mov (kT 10)),
 kO 6 (.mov (kC 0)),
 kO 7 (.mov (.const kN)),
 kO 8 (.mov (kT 21))])
 .ret)
 .skip))
 (.seq (.ops [kO 22 (.loadN 2 (kT 9)),
 kO 23 (.mov (kT 2)),
 kO 24 (.call 55 [.tmp 22,.tmp 23]),
 kO 11 (.alloc 56 [kZ,kN]),
 ⟨none,.store 2 (kT 11) (kT 24),none⟩])
 (.seq (.ops [kO 25 (.fldA 0 (kT 11)),
 kO 26 (.load1 (kT 25)),
 kO 27 (.fldA 1 (kT 11)),
 kO 28 (.load1 (kT 27)),
 kO 6 (.mov (kT 26)),
 kO 7 (.mov (kT 28)),
 kO 8 (.mov (kC 0))])
 .ret)))))
theorem enter24 (hl : xs.length ≤ 29) (w : wq E 29 none c24 (frameOf xs) h [] (leaveQ E [.tmp 6,.tmp 7,.tmp 8] Q)) : CallP E 24 xs h Q :=
  CallP.enterQ (fn := Tryz.f24) (fn_get Tryz.func24) (code := Tryz.f24.body.get rfl) rfl rfl rfl (by kernel_rfl) rfl (fun _ => rfl) hl w
theorem can24 : callable E 24 = true := callable_get Tryz.func24 rfl rfl
def c25 : C := (.seq (.ops [kO 2 (.box 52 (kT 0)),
 kO 3 (.box 52 (kT 1)),
 kO 4 (.mov (.const (.bool kF)))])
 (.seq (.ops [kO 5 (.idxA 2 1 (kT 2) (kC 0)),
 kO 6 (.load1 (kT 5)),
 kO 7 (.idxA 2 1 (kT 3) (kC 0)),
 kO 8 (.load1 (kT 7)),
 kO 9 (kA .lss (kT 6) (kT 8)),
 kO 10 (.mov (kT 9)),
 ⟨some 11,.idxA 2 1 (kT 2) (kC 0),(some (10,kF))⟩,
 ⟨some 12,.load1 (kT 11),(some (10,kF))⟩,
 ⟨some 13,.idxA 2 1 (kT 3) (kC 0),(some (10,kF))⟩,
 ⟨some 14,.load1 (kT 13),(some (10,kF))⟩,
 ⟨some 15,kA .eql (kT 12) (kT 14),(some (10,kF))⟩,
 ⟨some 16,.mov (kT 15),(some (10,kF))⟩,
 ⟨some 17,.idxA 2 1 (kT 2) (kC 1),(some (16,kE))⟩,
 ⟨some 18,.load1 (kT 17),(some (16,kE))⟩,
 ⟨some 19,.idxA 2 1 (kT 3) (kC 1),(some (16,kE))⟩,
 ⟨some 20,.load1 (kT 19),(some (16,kE))⟩,
 ⟨some 21,kA .lss (kT 18) (kT 20),(some (16,kE))⟩,
 ⟨some 22,.pick (kT 16) (kT 21) (.const (.bool kF)),(some (10,kF))⟩,
 kO 23 (.pick (kT 10) (.const (.bool kE)) (kT 22)),
 kO 4 (.mov (kT 23))])
 .ret))
theorem enter25 (hl : xs.length ≤ 24) (w : wq E 24 none c25 (frameOf xs) h [] (leaveQ E [.tmp 4] Q)) : CallP E 25 xs h Q :=
  CallP.enterQ (fn := Tryz.f25) (fn_get Tryz.func25) (code := Tryz.f25.body.get rfl) rfl rfl rfl (by kernel_rfl) rfl (fun _ => rfl) hl w
theorem can25 : callable E 25 = true := callable_get Tryz.func25 rfl rfl
def c26 : C := (.seq (.ops [kO 2 (.box 52 (kT 0)),
 kO 3 (.box 52 (kT 1)),
 kO 4 (.mov (kC 0))])
 (.seq (.ops [kO 5 (.cutA 2 1 (kT 2) none none none),
 kO 6 (.cutA 2 1 (kT 3) none none none),
 kO 7 (.call 56 [.tmp 5,.tmp 6]),
 kO 4 (.mov (kT 7))])
 .ret))
theorem enter26 (hl : xs.length ≤ 8) (w : wq E 8 none c26 (frameOf xs) h [] (leaveQ E [.tmp 4] Q)) : CallP E 26 xs h Q :=
  CallP.enterQ (fn := Tryz.f26) (fn_get Tryz.func26) (code := Tryz.f26.body.get rfl) rfl rfl rfl (by kernel_rfl) rfl (fun _ => rfl) hl w
theorem can26 : callable E 26 = true := callable_get Tryz.func26 rfl rfl
def c38 : C := (.seq (.ops [kO 6 (.mov (kC 0))])
 (.seq (.seq (.ops [kO 8 (.mov (kT 0)),
 kO 9 (.mov (kT 1)),
 kO 10 (.call 6 [.tmp 8,.tmp 9]),
 kO 7 (.mov (kT 10))])
 (.seq (.ops [kO 11 (.mov (kT 7)),
 kO 12 (kA .neq (kT 11) (kC 0))])
 (.cond (kT 12) (.seq (.ops [kO 13 (.mov (kT 7)),
 kO 6 (.mov (kT 13))])
 .ret)
 .skip)))
 (.seq (.seq (.ops [kO 14 (.mov (kT 2)),
 kO 15 (kA .lss (kT 14) (kC 1)),
 kO 16 (.mov (kT 15)),
 ⟨some 17,.mov (kT 2),(some (16,kF))⟩,
 ⟨some 18,kA .gtr (kT 17) (kC 10),(some (16,kF))⟩,
 kO 19 (.pick (kT 16) (.const (.bool kE)) (kT 18))])
 (.cond (kT 19) (.seq (.ops [kO 6 (.mov (kC 1))])
 .ret)
 .skip))
 (.seq (.ops [kO 6 (.mov (kC 0))])
 .ret))))
theorem enter38 (hl : xs.length ≤ 20) (w : wq E 20 none c38 (frameOf xs) h [] (leaveQ E [.tmp 6] Q)) : CallP E 38 xs h Q :=
  CallP.enterQ (fn := Tryz.f38) (fn_get Tryz.func38) (code := Tryz.f38.body.get rfl) rfl rfl rfl (by kernel_rfl) rfl (fun _ => rfl) hl w
theorem can38 : callable E 38 = true := callable_get Tryz.func38 rfl rfl
def c46 : C := (.seq (.ops [kO 6 (.alloc 56 [kZ,kN]),
 kO 7 (.mov (kC 0))])
 (.seq (.ops [kO 10 (.mov (kT 0)),
 kO 11 (.mov (kT 1)),
 kO 12 (.aggr [kZ,kN] [(0,1,(kT 10)),(1,1,(kT 11))]),
 kO 8 (.alloc 56 [kZ,kN]),
 ⟨none,.store 2 (kT 8) (kT 12),none⟩])
 (.seq (.seq (.ops [kO 13 (.mov (kT 0)),
 kO 14 (.mov (kT 1)),
 kO 15 (.call 6 [.tmp 13,.tmp 14]),
 kO 9 (.mov (kT 15))])
 (.seq (.ops [kO 16 (.mov (kT 9)),
 kO 17 (kA .neq (kT 16) (kC 0))])
 (.cond (kT 17) (.seq (.ops [kO 18 (.aggr [kZ,kN] []),
 kO 19 (.mov (kT 9)),
 ⟨none,.store 2 (kT 6) (kT 18),none⟩,
 kO 7 (.mov (kT 19))])
 .ret)
 .skip)))
 (.seq (.seq (.ops [kO 20 (.loadN 2 (kT 8)),
 kO 21 (.mov (kT 2)),
 kO 22 (.call 74 [.tmp 20,.tmp 21]),
 kO 23 (.not (kT 22))])
 (.cond (kT 23) (.seq (.ops [kO 24 (.aggr [kZ,kN] []),
 ⟨none,.store 2 (kT 6) (kT 24),none⟩,
 kO 7 (.mov (kC 1))])
 .ret)
 .skip))
 (.seq (.ops [kO 25 (.loadN 2 (kT 8)),
 ⟨none,.store 2 (kT 6) (kT 25),none⟩,
 kO 7 (.mov (kC 0))])
 .ret)))))
theorem enter46 (hl : xs.length ≤ 26) (w : wq E 26 none c46 (frameOf xs) h [] (leaveQ E [.cell 6 56,.tmp 7] Q)) : CallP E 46 xs h Q :=
  CallP.enterQ (fn := Tryz.f46) (fn_get Tryz.func46) (code := Tryz.f46.body.get rfl) rfl rfl rfl (by kernel_rfl) rfl (fun _ => rfl) hl w
theorem can46 : callable E 46 = true := callable_get Tryz.func46 rfl rfl
def c53 : C := (.seq (.ops [kO 6 (.alloc 56 [kZ,kN]),
 kO 7 (.mov (kC 0))])
 (.seq (.seq (.ops [kO 9 (.mov (kT 0)),
 kO 10 (.mov (kT 1)),
 kO 11 (.call 6 [.tmp 9,.tmp 10]),
 kO 8 (.mov (kT 11))])
 (.seq (.ops [kO 12 (.mov (kT 8)),
 kO 13 (kA .neq (kT 12) (kC 0))])
 (.cond (kT 13) (.seq (.ops [kO 14 (.aggr [kZ,kN] []),
 kO 15 (.mov (kT 8)),
 ⟨none,.store 2 (kT 6) (kT 14),none⟩,
 kO 7 (.mov (kT 15))])
 .ret)
 .skip)))
 (.seq (.seq (.ops [kO 16 (.mov (kT 2)),
 kO 17 (kA .lss (kT 16) (kC 0)),
 kO 18 (.mov (kT 17)),
 ⟨some 19,.mov (kT 2),(some (18,kF))⟩,
 ⟨some 20,.mov (kT 1),(some (18,kF))⟩,
 ⟨some 21,.lenS (kT 20),(some (18,kF))⟩,
 ⟨some 22,kA .geq (kT 19) (kT 21),(some (18,kF))⟩,
 kO 23 (.pick (kT 18) (.const (.bool kE)) (kT 22))])
 (.cond (kT 23) (.seq (.ops [kO 24 (.aggr [kZ,kN] []),
 ⟨none,.store 2 (kT 6) (kT 24),none⟩,
 kO 7 (.mov (kC 1))])
 .ret)
 .skip))
 (.seq (.ops [kO 25 (.mov (kT 0)),
 kO 26 (.mov (kT 1)),
 kO 27 (.aggr [kZ,kN] [(0,1,(kT 25)),(1,1,(kT 26))]),
 ⟨none,.store 2 (kT 6) (kT 27),none⟩,
 kO 7 (.mov (kC 0))])
 .ret))))
theorem enter53 (hl : xs.length ≤ 28) (w : wq E 28 none c53 (frameOf xs) h [] (leaveQ E [.cell 6 56,.tmp 7] Q)) : CallP E 53 xs h Q :=
  CallP.enterQ (fn := Tryz.f53) (fn_get Tryz.func53) (code := Tryz.f53.body.get rfl) rfl rfl rfl (by kernel_rfl) rfl (fun _ => rfl) hl w
theorem can53 : callable E 53 = true := callable_get Tryz.func53 rfl rfl
def c56 : C := (.seq (.ops [kO 4 (.mov (kC 0))])
 (.seq (.seq (.ops [kO 9 (.mov (kT 0)),
 kO 10 (.lenS (kT 9)),
 kO 11 (.mov (kC 0))])
 (.block 0 (.loop (.seq (.ops [kO 12 (kA .lss (kT 11) (kT 10))])
 (.seq (.cond (kT 12) .skip
 (.exit 0))
 (.seq (.block 1 (.seq (.ops [kO 13 (.mov (kT 11)),
 kO 14 (.idxS 1 (kT 9) (kT 11)),
 kO 15 (.load1 (kT 14)),
 kO 5 (.mov (kT 13)),
 kO 6 (.mov (kT 15))])
 (.seq (.seq (.ops [kO 16 (.mov (kT 5)),
 kO 17 (.mov (kT 1)),
 kO 18 (.lenS (kT 17)),
 kO 19 (kA .geq (kT 16) (kT 18))])
 (.cond (kT 19) (.seq (.ops [kO 4 (.mov (kC 1))])
 .ret)
 .skip))
 (.seq (.ops [kO 20 (.mov (kT 1)),
 kO 21 (.mov (kT 5)),
 kO 22 (.idxS 1 (kT 20) (kT 21)),
 kO 23 (.load1 (kT 22)),
 kO 7 (.mov (kT 23))])
 (.seq (.ops [kO 24 (.mov (kT 6)),
 kO 25 (.mov (kT 7)),
 kO 26 (.call 80 [.tmp 24,.tmp 25]),
 kO 8 (.mov (kT 26))])
 (.seq (.ops [kO 27 (.mov (kT 8)),
 kO 28 (kA .neq (kT 27) (kC 0))])
 (.cond (kT 28) (.seq (.ops [kO 29 (.mov (kT 8)),
 kO 4 (.mov (kT 29))])
 .ret)
 .skip)))))))
 (.ops [kO 30 (kA .add (kT 11) (kC 1)),
 kO 11 (.mov (kT 30))])))))))
 (.seq (.seq (.ops [kO 31 (.mov (kT 0)),
 kO 32 (.lenS (kT 31)),
 kO 33 (.mov (kT 1)),
 kO 34 (.lenS (kT 33)),
 kO 35 (kA .lss (kT 32) (kT 34))])
 (.cond (kT 35) (.seq (.ops [kO 4 (.mov (.const (.int .i64 (-1))))])
 .ret)
 .skip))
 (.seq (.ops [kO 4 (.mov (kC 0))])
 .ret))))
theorem enter56 (hl : xs.length ≤ 36) (w : wq E 36 none c56 (frameOf xs) h [] (leaveQ E [.tmp 4] Q)) : CallP E 56 xs h Q :=
  CallP.enterQ (fn := Tryz.f56) (fn_get Tryz.func56) (code := Tryz.f56.body.get rfl) rfl rfl rfl (by kernel_rfl) rfl (fun _ => rfl) hl w
theorem can56 : callable E 56 = true := callable_get Tryz.func56 rfl rfl
def c72 : C := (.seq (.ops [kO 1 (.box 56 (kT 0)),
 kO 2 (.mov (kC 0))])
 (.seq (.ops [kO 3 (.fldA 1 (kT 1)),
 kO 4 (.load1 (kT 3)),
 kO 5 (.lenS (kT 4)),
 kO 6 (kA .shl (kC 1) (kT 5)),
 kO 7 (kA .sub (kT 6) (kC 1)),
 kO 2 (.mov (kT 7))])
 .ret))
theorem enter72 (hl : xs.length ≤ 8) (w : wq E 8 none c72 (frameOf xs) h [] (leaveQ E [.tmp 2] Q)) : CallP E 72 xs h Q :=
  CallP.enterQ (fn := Tryz.f72) (fn_get Tryz.func72) (code := Tryz.f72.body.get rfl) rfl rfl rfl (by kernel_rfl) rfl (fun _ => rfl) hl w
theorem can72 : callable E 72 = true := callable_get Tryz.func72 rfl rfl
def c74 : C := (.seq (.ops [kO 2 (.box 56 (kT 0)),
 kO 4 (.mov (.const (.bool kF)))])
 (.seq (.ops [kO 5 (.mov (kT 1)),
 kO 6 (kA .geq (kT 5) (kC 0)),
 kO 7 (.mov (kT 6)),
 ⟨some 8,.mov (kT 1),(some (7,kE))⟩,
 ⟨some 9,.loadN 2 (kT 2),(some (7,kE))⟩,
 ⟨some 10,.call 72 [.tmp 9],(some (7,kE))⟩,
 ⟨some 11,kA .leq (kT 8) (kT 10),(some (7,kE))⟩,
 kO 12 (.pick (kT 7) (kT 11) (.const (.bool kF))),
 kO 4 (.mov (kT 12))])
 .ret))
theorem enter74 (hl : xs.length ≤ 13) (w : wq E 13 none c74 (frameOf xs) h [] (leaveQ E [.tmp 4] Q)) : CallP E 74 xs h Q :=
  CallP.enterQ (fn := Tryz.f74) (fn_get Tryz.func74) (code := Tryz.f74.body.get rfl) rfl rfl rfl (by kernel_rfl) rfl (fun _ => rfl) hl w
theorem can74 : callable E 74 = true := callable_get Tryz.func74 rfl rfl
def c80 : C := (.seq (.ops [kO 4 (.mov (kC 0))])
 (.seq (.ops [kO 7 (.mov (kT 0)),
 kO 8 (.call 93 [.tmp 7]),
 kO 5 (.mov (kT 8))])
 (.seq (.ops [kO 9 (.mov (kT 1)),
 kO 10 (.call 93 [.tmp 9]),
 kO 6 (.mov (kT 10))])
 (.seq (.seq (.ops [kO 11 (.mov (kT 5))])
 (.cond (kT 11) (.seq (.seq (.ops [kO 12 (.mov (kT 6))])
 (.cond (kT 12) (.seq (.ops [kO 4 (.mov (kC 0))])
 .ret)
 .skip))
 (.seq (.ops [kO 4 (.mov (.const (.int .i64 (-1))))])
 .ret))
 .skip))
 (.seq (.seq (.ops [kO 13 (.mov (kT 6))])
 (.cond (kT 13) (.seq (.ops [kO 4 (.mov (kC 1))])
 .ret)
 .skip))
 (.seq (.seq (.ops [kO 14 (.mov (kT 0)),
 kO 15 (.mov (kT 1)),
 kO 16 (kA .lss (kT 14) (kT 15))])
 (.cond (kT 16) (.seq (.ops [kO 4 (.mov (.const (.int .i64 (-1))))])
 .ret)
 .skip))
 (.seq (.seq (.ops [kO 17 (.mov (kT 0)),
 kO 18 (.mov (kT 1)),
 kO 19 (kA .gtr (kT 17) (kT 18))])
 (.cond (kT 19) (.seq (.ops [kO 4 (.mov (kC 1))])
 .ret)
 .skip))
 (.seq (.ops [kO 4 (.mov (kC 0))])
 .ret))))))))
theorem enter80 (hl : xs.length ≤ 20) (w : wq E 20 none c80 (frameOf xs) h [] (leaveQ E [.tmp 4] Q)) : CallP E 80 xs h Q :=
  CallP.enterQ (fn := Tryz.f80) (fn_get Tryz.func80) (code := Tryz.f80.body.get rfl) rfl rfl rfl (by kernel_rfl) rfl (fun _ => rfl) hl w
theorem can80 : callable E 80 = true := callable_get Tryz.func80 rfl rfl
def c93 : C := (.seq (.ops [kO 2 (.mov (.const (.bool kF)))])
 (.seq (.ops [kO 3 (.mov (kT 0)),
 kO 4 (.mov (kT 0)),
 kO 5 (kA .neq (kT 3) (kT 4)),
 kO 2 (.mov (kT 5))])
 .ret))
theorem enter93 (hl : xs.length ≤ 6) (w : wq E 6 none c93 (frameOf xs) h [] (leaveQ E [.tmp 2] Q)) : CallP E 93 xs h Q :=
  CallP.enterQ (fn := Tryz.f93) (fn_get Tryz.func93) (code := Tryz.f93.body.get rfl) rfl rfl rfl (by kernel_rfl) rfl (fun _ => rfl) hl w
theorem can93 : callable E 93 = true := callable_get Tryz.func93 rfl rfl
end
end Go.Proofs.YthgjnkdealdmoaaGreat
