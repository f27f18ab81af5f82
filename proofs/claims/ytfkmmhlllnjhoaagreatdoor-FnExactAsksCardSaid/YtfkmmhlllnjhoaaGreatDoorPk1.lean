/-
  Texts that a law leans on, one behind the other; no statement is proved here.
-/
import Derived.Shelf.Small.Utf8
import Derived.Shelf.Strconv.Atoi
import Derived.Shelf.Strconv.Itoa0
import Derived.Shelf.Strconv.Itoa1
import Derived.Shelf.LaysM
import Derived.Shelf.Strconv.Itoa2
import Derived.Shelf.Strconv.Itoa3
import Derived.Shelf.Strconv.AtoiErrFast
import Derived.Shelf.Strconv.ParseIntEmpty
import Derived.Shelf.Strconv.AtoiFail
import Derived.Shelf.Strconv.Clone
import Derived.Shelf.Strconv.SyntaxError
import Derived.Shelf.LaysC
import Derived.Shelf.Strconv.ToError
import Derived.Shelf.Strconv.Lower
import Derived.Shelf.Strconv.ParseUint10
import Derived.Shelf.Strconv.ParseUint10Empty
import Derived.Shelf.Strconv.ParseUint10Any
import Derived.Shelf.Strconv.ParseInt10
import Derived.Shelf.Strconv.AtoiLong
import Derived.Shelf.Strconv.AtoiInnerAll
import Derived.Shelf.Strconv.RangeError
import Derived.Shelf.Strconv.ToErrorRange
import Derived.Shelf.Strconv.AtoiAll
import Derived.Shelf.Strconv.ErrVarAll
import Derived.Shelf.Strings.Search1
import Derived.Shelf.Strconv.AppendUint10
import Derived.Shelf.Strconv.AppendInt10
import Derived.Shelf.Strconv.AppendIntPublic10
import Derived.Shelf.Bytes.SlIndexSmall
import Derived.Shelf.Bytes.SlIndexAt
import Derived.Shelf.Bytes.SlSearch0
import Derived.Shelf.Bytes.SlSearch1
import Derived.Shelf.Bytes.SlSearch2
import Derived.Shelf.Bytes.SlIndexWhole
import Derived.Shelf.Bytes.SlEqualAll
import Derived.Ground.SlbtProg
import Derived.Shelf.Bytes.SlCut
import Derived.Shelf.Bytes.Small
import Derived.Shelf.Bytes.IndexByte
import Derived.Shelf.Bytes.SlTrim
import Derived.Ground.SlbvProg
import Derived.Test.YtfkmmhlllnjhoaaGreatDoorProg
import Derived.Test.YtfkmmhlllnjhoaaGreatDoorPk0
import Derived.Lib.AppendStr
/-
  DERIVED: THE SHELF's CONTRACTS AT THIS DUMP, IN PLAIN WORDS (tools/lay-plain.mjs out of 'TryzShelf.lean', which tools/lay-shelf.mjs wrote): THE SAME DECLARATIONS UNDER THE SAME NAMES: 'import', 'namespace', 'open', 'def', 'theorem' AND NOTHING ELSE: no command of the shelf's: FOR A HAND-IN. Each laying: the table of numbers ('.._ren') and one theorem, a field a fact of the dump's own or the kernel's comparison; each contract: ONE APPLICATION.
-/
namespace Go.Proofs
open Go.Shelf
def Tryz.laysC172_ren : Go.Shelf.Ren := ⟨fun | 172 => 46 | 244 => 59 | 245 => 60 | 247 => 77 | 279 => 78 | 280 => 79 | 281 => 80 | 282 => 81 | 287 => 89 | 316 => 90 | 171 => 92 | 205 => 91 | 321 => 96 | 322 => 97 | 243 => 98 | 246 => 104 | 283 => 99 | 284 => 100 | 285 => 101 | 286 => 102 | 129 => 106 | 317 => 105 | 318 => 107 | 319 => 108 | 320 => 109 | 337 => 110 | 338 => 111 | n => n, fun | 9 => 9 | 3 => 3 | 75 => 81 | 76 => 82 | 4 => 4 | 5 => 5 | 167 => 121 | 37 => 34 | 0 => 0 | 85 => 122 | 2 => 2 | 168 => 124 | 53 => 135 | 175 => 136 | 46 => 116 | 210 => 140 | 127 => 145 | 145 => 148 | 143 => 146 | 21 => 21 | 171 => 153 | 173 => 156 | 212 => 160 | 51 => 132 | 20 => 20 | 213 => 161 | 232 => 164 | 233 => 165 | 80 => 166 | n => n, fun | 15 => 1 | 16 => 2 | 17 => 5 | 18 => 6 | 19 => 7 | n => n⟩
theorem Tryz.laysC172 : Go.Proofs.LaysC.n172 Tryz.prog Tryz.laysC172_ren := {
  mixed := by kernel_rfl
  f129 := Tryz.func106.trans (congrArg some (by kernel_rfl))
  f171 := Tryz.func92.trans (congrArg some (by kernel_rfl))
  f172 := Tryz.func46.trans (congrArg some (by kernel_rfl))
  f205 := Tryz.func91.trans (congrArg some (by kernel_rfl))
  f243 := Tryz.func98.trans (congrArg some (by kernel_rfl))
  f244 := Tryz.func59.trans (congrArg some (by kernel_rfl))
  f245 := Tryz.func60.trans (congrArg some (by kernel_rfl))
  f246 := Tryz.func104.trans (congrArg some (by kernel_rfl))
  f247 := Tryz.func77.trans (congrArg some (by kernel_rfl))
  f279 := Tryz.func78.trans (congrArg some (by kernel_rfl))
  f280 := Tryz.func79.trans (congrArg some (by kernel_rfl))
  f281 := Tryz.func80.trans (congrArg some (by kernel_rfl))
  f282 := Tryz.func81.trans (congrArg some (by kernel_rfl))
  f283 := Tryz.func99.trans (congrArg some (by kernel_rfl))
  f284 := Tryz.func100.trans (congrArg some (by kernel_rfl))
  f285 := Tryz.func101.trans (congrArg some (by kernel_rfl))
  f286 := Tryz.func102.trans (congrArg some (by kernel_rfl))
  f287 := Tryz.func89.trans (congrArg some (by kernel_rfl))
  f316 := Tryz.func90.trans (congrArg some (by kernel_rfl))
  f317 := Tryz.func105.trans (congrArg some (by kernel_rfl))
  f318 := Tryz.func107.trans (congrArg some (by kernel_rfl))
  f319 := Tryz.func108.trans (congrArg some (by kernel_rfl))
  f320 := Tryz.func109.trans (congrArg some (by kernel_rfl))
  f321 := Tryz.func96.trans (congrArg some (by kernel_rfl))
  f322 := Tryz.func97.trans (congrArg some (by kernel_rfl))
  f337 := Tryz.func110.trans (congrArg some (by kernel_rfl))
  f338 := Tryz.func111.trans (congrArg some (by kernel_rfl))
  t0 := Tryz.underlying0
  a0 := Tryz.isAgg0
  z0 := Tryz.sizeOf0
  v0 := Tryz.zeroValue0
  t2 := Tryz.underlying2
  a2 := Tryz.isAgg2
  z2 := Tryz.sizeOf2
  v2 := Tryz.zeroValue2
  t3 := Tryz.underlying3
  a3 := Tryz.isAgg3
  z3 := Tryz.sizeOf3
  v3 := Tryz.zeroValue3
  t4 := Tryz.underlying4
  a4 := Tryz.isAgg4
  z4 := Tryz.sizeOf4
  v4 := Tryz.zeroValue4
  t5 := Tryz.underlying5
  a5 := Tryz.isAgg5
  z5 := Tryz.sizeOf5
  v5 := Tryz.zeroValue5
  t9 := Tryz.underlying9
  a9 := Tryz.isAgg9
  z9 := Tryz.sizeOf9
  v9 := Tryz.zeroValue9
  t20 := Tryz.underlying20
  a20 := Tryz.isAgg20
  z20 := Tryz.sizeOf20
  v20 := Tryz.zeroValue20
  t21 := Tryz.underlying21
  a21 := Tryz.isAgg21
  z21 := Tryz.sizeOf21
  v21 := Tryz.zeroValue21
  t37 := Tryz.underlying34
  a37 := Tryz.isAgg34
  z37 := Tryz.sizeOf34
  v37 := Tryz.zeroValue34
  t46 := Tryz.underlying116
  a46 := Tryz.isAgg116
  z46 := Tryz.sizeOf116
  v46 := Tryz.zeroValue116
  t51 := Tryz.underlying132
  a51 := Tryz.isAgg132
  z51 := Tryz.sizeOf132
  v51 := Tryz.zeroValue132
  t53 := Tryz.underlying135
  a53 := Tryz.isAgg135
  z53 := Tryz.sizeOf135
  v53 := Tryz.zeroValue135
  t75 := Tryz.underlying81
  a75 := Tryz.isAgg81
  z75 := Tryz.sizeOf81
  v75 := Tryz.zeroValue81
  t76 := Tryz.underlying82
  a76 := Tryz.isAgg82
  z76 := Tryz.sizeOf82
  v76 := Tryz.zeroValue82
  t85 := Tryz.underlying122
  a85 := Tryz.isAgg122
  z85 := Tryz.sizeOf122
  v85 := Tryz.zeroValue122
  t127 := Tryz.underlying145
  a127 := Tryz.isAgg145
  z127 := Tryz.sizeOf145
  v127 := Tryz.zeroValue145
  t143 := Tryz.underlying146
  a143 := Tryz.isAgg146
  z143 := Tryz.sizeOf146
  v143 := Tryz.zeroValue146
  t145 := Tryz.underlying148
  a145 := Tryz.isAgg148
  z145 := Tryz.sizeOf148
  v145 := Tryz.zeroValue148
  t167 := Tryz.underlying121
  a167 := Tryz.isAgg121
  z167 := Tryz.sizeOf121
  v167 := Tryz.zeroValue121
  t168 := Tryz.underlying124
  a168 := Tryz.isAgg124
  z168 := Tryz.sizeOf124
  v168 := Tryz.zeroValue124
  t171 := Tryz.underlying153
  a171 := Tryz.isAgg153
  z171 := Tryz.sizeOf153
  v171 := Tryz.zeroValue153
  t173 := Tryz.underlying156
  a173 := Tryz.isAgg156
  z173 := Tryz.sizeOf156
  v173 := Tryz.zeroValue156
  t175 := Tryz.underlying136
  a175 := Tryz.isAgg136
  z175 := Tryz.sizeOf136
  v175 := Tryz.zeroValue136
  t210 := Tryz.underlying140
  a210 := Tryz.isAgg140
  z210 := Tryz.sizeOf140
  v210 := Tryz.zeroValue140
  t212 := Tryz.underlying160
  a212 := Tryz.isAgg160
  z212 := Tryz.sizeOf160
  v212 := Tryz.zeroValue160
  t213 := Tryz.underlying161
  a213 := Tryz.isAgg161
  z213 := Tryz.sizeOf161
  t232 := Tryz.underlying164
  a232 := Tryz.isAgg164
  z232 := Tryz.sizeOf164
  v232 := Tryz.zeroValue164
  t233 := Tryz.underlying165
  a233 := Tryz.isAgg165
  z233 := Tryz.sizeOf165
  v233 := Tryz.zeroValue165
  g15 := by kernel_rfl
  g16 := by kernel_rfl
  g17 := by kernel_rfl
  g18 := by kernel_rfl
  g19 := by kernel_rfl
  t80 := Tryz.underlying166
  a80 := Tryz.isAgg166
  z80 := Tryz.sizeOf166
  v80 := Tryz.zeroValue166
  i0 := by kernel_rfl
  i2 := by kernel_rfl
  i3 := by kernel_rfl
  i4 := by kernel_rfl
  i5 := by kernel_rfl
  i9 := by kernel_rfl
  i20 := by kernel_rfl
  i21 := by kernel_rfl
  i37 := by kernel_rfl
  i46 := by kernel_rfl
  i51 := by kernel_rfl
  i53 := by kernel_rfl
  i75 := by kernel_rfl
  i76 := by kernel_rfl
  i80 := by kernel_rfl
  i85 := by kernel_rfl
  i127 := by kernel_rfl
  i143 := by kernel_rfl
  i145 := by kernel_rfl
  i167 := by kernel_rfl
  i168 := by kernel_rfl
  i171 := by kernel_rfl
  i173 := by kernel_rfl
  i175 := by kernel_rfl
  i210 := by kernel_rfl
  i212 := by kernel_rfl
  i232 := by kernel_rfl
  i233 := by kernel_rfl
  m15 := by kernel_rfl
  m16 := by kernel_rfl
  m17 := by kernel_rfl
  m18 := by kernel_rfl
  m19 := by kernel_rfl
  c0 := by kernel_rfl
  c2 := by kernel_rfl
  c3 := by kernel_rfl
  c4 := by kernel_rfl
  c5 := by kernel_rfl
  c9 := by kernel_rfl
  c20 := by kernel_rfl
  c21 := by kernel_rfl
  c37 := by kernel_rfl
  c46 := by kernel_rfl
  c51 := by kernel_rfl
  c53 := by kernel_rfl
  c75 := by kernel_rfl
  c76 := by kernel_rfl
  c80 := by kernel_rfl
  c85 := by kernel_rfl
  c127 := by kernel_rfl
  c143 := by kernel_rfl
  c145 := by kernel_rfl
  c167 := by kernel_rfl
  c168 := by kernel_rfl
  c171 := by kernel_rfl
  c173 := by kernel_rfl
  c175 := by kernel_rfl
  c210 := by kernel_rfl
  c212 := by kernel_rfl
  c213 := by kernel_rfl
  c232 := by kernel_rfl
  c233 := by kernel_rfl }
def Tryz.laysM288_ren : Go.Shelf.Ren := ⟨fun | 288 => 94 | 283 => 99 | 284 => 100 | 285 => 101 | 286 => 102 | 129 => 106 | 317 => 105 | 318 => 107 | 319 => 108 | 320 => 109 | 337 => 110 | 338 => 111 | n => n, fun | 37 => 34 | 53 => 135 | 3 => 3 | 4 => 4 | 9 => 9 | 171 => 153 | 0 => 0 | 173 => 156 | 212 => 160 | 51 => 132 | 5 => 5 | 20 => 20 | 213 => 161 | 46 => 116 | 232 => 164 | 233 => 165 | n => n, fun | 17 => 5 | 18 => 6 | 19 => 7 | n => n⟩
theorem Tryz.laysM288 : Go.Proofs.LaysM.n288 Tryz.prog Tryz.laysM288_ren := {
  mixed := by kernel_rfl
  f129 := Tryz.func106.trans (congrArg some (by kernel_rfl))
  f283 := Tryz.func99.trans (congrArg some (by kernel_rfl))
  f284 := Tryz.func100.trans (congrArg some (by kernel_rfl))
  f285 := Tryz.func101.trans (congrArg some (by kernel_rfl))
  f286 := Tryz.func102.trans (congrArg some (by kernel_rfl))
  f288 := Tryz.func94.trans (congrArg some (by kernel_rfl))
  f317 := Tryz.func105.trans (congrArg some (by kernel_rfl))
  f318 := Tryz.func107.trans (congrArg some (by kernel_rfl))
  f319 := Tryz.func108.trans (congrArg some (by kernel_rfl))
  f320 := Tryz.func109.trans (congrArg some (by kernel_rfl))
  f337 := Tryz.func110.trans (congrArg some (by kernel_rfl))
  f338 := Tryz.func111.trans (congrArg some (by kernel_rfl))
  t0 := Tryz.underlying0
  a0 := Tryz.isAgg0
  z0 := Tryz.sizeOf0
  v0 := Tryz.zeroValue0
  t3 := Tryz.underlying3
  a3 := Tryz.isAgg3
  z3 := Tryz.sizeOf3
  v3 := Tryz.zeroValue3
  t4 := Tryz.underlying4
  a4 := Tryz.isAgg4
  z4 := Tryz.sizeOf4
  v4 := Tryz.zeroValue4
  t5 := Tryz.underlying5
  a5 := Tryz.isAgg5
  z5 := Tryz.sizeOf5
  v5 := Tryz.zeroValue5
  t9 := Tryz.underlying9
  a9 := Tryz.isAgg9
  z9 := Tryz.sizeOf9
  v9 := Tryz.zeroValue9
  t20 := Tryz.underlying20
  a20 := Tryz.isAgg20
  z20 := Tryz.sizeOf20
  v20 := Tryz.zeroValue20
  t37 := Tryz.underlying34
  a37 := Tryz.isAgg34
  z37 := Tryz.sizeOf34
  v37 := Tryz.zeroValue34
  t46 := Tryz.underlying116
  a46 := Tryz.isAgg116
  z46 := Tryz.sizeOf116
  v46 := Tryz.zeroValue116
  t51 := Tryz.underlying132
  a51 := Tryz.isAgg132
  z51 := Tryz.sizeOf132
  v51 := Tryz.zeroValue132
  t53 := Tryz.underlying135
  a53 := Tryz.isAgg135
  z53 := Tryz.sizeOf135
  v53 := Tryz.zeroValue135
  t171 := Tryz.underlying153
  a171 := Tryz.isAgg153
  z171 := Tryz.sizeOf153
  v171 := Tryz.zeroValue153
  t173 := Tryz.underlying156
  a173 := Tryz.isAgg156
  z173 := Tryz.sizeOf156
  v173 := Tryz.zeroValue156
  t212 := Tryz.underlying160
  a212 := Tryz.isAgg160
  z212 := Tryz.sizeOf160
  v212 := Tryz.zeroValue160
  t213 := Tryz.underlying161
  a213 := Tryz.isAgg161
  z213 := Tryz.sizeOf161
  t232 := Tryz.underlying164
  a232 := Tryz.isAgg164
  z232 := Tryz.sizeOf164
  v232 := Tryz.zeroValue164
  t233 := Tryz.underlying165
  a233 := Tryz.isAgg165
  z233 := Tryz.sizeOf165
  v233 := Tryz.zeroValue165
  g17 := by kernel_rfl
  g18 := by kernel_rfl
  g19 := by kernel_rfl
  i0 := by kernel_rfl
  i3 := by kernel_rfl
  i4 := by kernel_rfl
  i5 := by kernel_rfl
  i9 := by kernel_rfl
  i20 := by kernel_rfl
  i37 := by kernel_rfl
  i46 := by kernel_rfl
  i51 := by kernel_rfl
  i53 := by kernel_rfl
  i171 := by kernel_rfl
  i173 := by kernel_rfl
  i212 := by kernel_rfl
  i232 := by kernel_rfl
  i233 := by kernel_rfl
  m17 := by kernel_rfl
  m18 := by kernel_rfl
  m19 := by kernel_rfl }
def Tryz.lays185_ren : Go.Shelf.Ren := ⟨fun | 185 => 54 | 187 => 70 | 115 => 48 | 253 => 71 | 224 => 72 | 254 => 73 | 255 => 86 | 291 => 87 | n => n, fun | 37 => 34 | 3 => 3 | 4 => 4 | 0 => 0 | 5 => 5 | 46 => 116 | 9 => 9 | 146 => 133 | 51 => 132 | n => n, fun | 1 => 0 | n => n⟩
theorem Tryz.lays185 : Go.Proofs.Lays.n185 Tryz.prog Tryz.lays185_ren := {
  mixed := by kernel_rfl
  f115 := Tryz.func48.trans (congrArg some (by kernel_rfl))
  f185 := Tryz.func54.trans (congrArg some (by kernel_rfl))
  f187 := Tryz.func70.trans (congrArg some (by kernel_rfl))
  f224 := Tryz.func72.trans (congrArg some (by kernel_rfl))
  f253 := Tryz.func71.trans (congrArg some (by kernel_rfl))
  f254 := Tryz.func73.trans (congrArg some (by kernel_rfl))
  f255 := Tryz.func86.trans (congrArg some (by kernel_rfl))
  f291 := Tryz.func87.trans (congrArg some (by kernel_rfl))
  t0 := Tryz.underlying0
  a0 := Tryz.isAgg0
  z0 := Tryz.sizeOf0
  v0 := Tryz.zeroValue0
  t3 := Tryz.underlying3
  a3 := Tryz.isAgg3
  z3 := Tryz.sizeOf3
  v3 := Tryz.zeroValue3
  t4 := Tryz.underlying4
  a4 := Tryz.isAgg4
  z4 := Tryz.sizeOf4
  v4 := Tryz.zeroValue4
  t5 := Tryz.underlying5
  a5 := Tryz.isAgg5
  z5 := Tryz.sizeOf5
  v5 := Tryz.zeroValue5
  t9 := Tryz.underlying9
  a9 := Tryz.isAgg9
  z9 := Tryz.sizeOf9
  v9 := Tryz.zeroValue9
  t37 := Tryz.underlying34
  a37 := Tryz.isAgg34
  z37 := Tryz.sizeOf34
  v37 := Tryz.zeroValue34
  t46 := Tryz.underlying116
  a46 := Tryz.isAgg116
  z46 := Tryz.sizeOf116
  v46 := Tryz.zeroValue116
  t51 := Tryz.underlying132
  a51 := Tryz.isAgg132
  z51 := Tryz.sizeOf132
  v51 := Tryz.zeroValue132
  t146 := Tryz.underlying133
  a146 := Tryz.isAgg133
  z146 := Tryz.sizeOf133
  v146 := Tryz.zeroValue133
  g1 := by kernel_rfl }
def Tryz.laysnb115_ren : Go.Shelf.Ren := ⟨fun | 115 => 48 | n => n, fun | 37 => 34 | 4 => 4 | 9 => 9 | 5 => 5 | n => n, fun | n => n⟩
theorem Tryz.laysnb115 : Go.Proofs.Lays.nb115 Tryz.prog Tryz.laysnb115_ren := {
  mixed := by kernel_rfl
  f115 := Tryz.func48.trans (congrArg some (by kernel_rfl))
  t4 := Tryz.underlying4
  a4 := Tryz.isAgg4
  z4 := Tryz.sizeOf4
  v4 := Tryz.zeroValue4
  t9 := Tryz.underlying9
  a9 := Tryz.isAgg9
  z9 := Tryz.sizeOf9
  v9 := Tryz.zeroValue9
  t37 := Tryz.underlying34
  a37 := Tryz.isAgg34
  z37 := Tryz.sizeOf34
  v37 := Tryz.zeroValue34
  t5 := Tryz.underlying5
  a5 := Tryz.isAgg5
  z5 := Tryz.sizeOf5
  v5 := Tryz.zeroValue5 }
def Tryz.laysSlT4_ren : Go.Shelf.Ren := ⟨fun | 4 => 44 | 5 => 54 | 6 => 70 | 7 => 48 | 8 => 71 | 9 => 72 | 10 => 73 | 11 => 86 | 12 => 87 | n => n, fun | 22 => 34 | 4 => 4 | 3 => 3 | 0 => 0 | 5 => 5 | 29 => 116 | 9 => 9 | 31 => 133 | 30 => 132 | n => n, fun | 0 => 0 | n => n⟩
theorem Tryz.laysSlT4 : Go.Proofs.SlLaysT.n4 Tryz.prog Tryz.laysSlT4_ren := {
  mixed := by kernel_rfl
  f4 := Tryz.func44.trans (congrArg some (by kernel_rfl))
  f5 := Tryz.func54.trans (congrArg some (by kernel_rfl))
  f6 := Tryz.func70.trans (congrArg some (by kernel_rfl))
  f7 := Tryz.func48.trans (congrArg some (by kernel_rfl))
  f8 := Tryz.func71.trans (congrArg some (by kernel_rfl))
  f9 := Tryz.func72.trans (congrArg some (by kernel_rfl))
  f10 := Tryz.func73.trans (congrArg some (by kernel_rfl))
  f11 := Tryz.func86.trans (congrArg some (by kernel_rfl))
  f12 := Tryz.func87.trans (congrArg some (by kernel_rfl))
  t0 := Tryz.underlying0
  a0 := Tryz.isAgg0
  z0 := Tryz.sizeOf0
  v0 := Tryz.zeroValue0
  t3 := Tryz.underlying3
  a3 := Tryz.isAgg3
  z3 := Tryz.sizeOf3
  v3 := Tryz.zeroValue3
  t4 := Tryz.underlying4
  a4 := Tryz.isAgg4
  z4 := Tryz.sizeOf4
  v4 := Tryz.zeroValue4
  t5 := Tryz.underlying5
  a5 := Tryz.isAgg5
  z5 := Tryz.sizeOf5
  v5 := Tryz.zeroValue5
  t9 := Tryz.underlying9
  a9 := Tryz.isAgg9
  z9 := Tryz.sizeOf9
  v9 := Tryz.zeroValue9
  t22 := Tryz.underlying34
  a22 := Tryz.isAgg34
  z22 := Tryz.sizeOf34
  v22 := Tryz.zeroValue34
  t29 := Tryz.underlying116
  a29 := Tryz.isAgg116
  z29 := Tryz.sizeOf116
  v29 := Tryz.zeroValue116
  t30 := Tryz.underlying132
  a30 := Tryz.isAgg132
  z30 := Tryz.sizeOf132
  v30 := Tryz.zeroValue132
  t31 := Tryz.underlying133
  a31 := Tryz.isAgg133
  z31 := Tryz.sizeOf133
  v31 := Tryz.zeroValue133
  g0 := by kernel_rfl }
def Tryz.laysV7_ren : Go.Shelf.Ren := ⟨fun | 7 => 45 | 10 => 55 | 11 => 56 | 13 => 57 | 15 => 58 | 16 => 74 | 19 => 75 | 18 => 76 | 21 => 88 | 17 => 82 | 20 => 93 | n => n, fun | 22 => 34 | 9 => 9 | 3 => 3 | 4 => 4 | 5 => 5 | 28 => 95 | 27 => 94 | 0 => 0 | 31 => 98 | 21 => 21 | 33 => 118 | 36 => 149 | 37 => 116 | 40 => 152 | 39 => 151 | n => n, fun | 0 => 3 | 1 => 4 | n => n⟩
theorem Tryz.laysV7 : Go.Proofs.SlLaysV.n7 Tryz.prog Tryz.laysV7_ren := {
  mixed := by kernel_rfl
  f7 := Tryz.func45.trans (congrArg some (by kernel_rfl))
  f10 := Tryz.func55.trans (congrArg some (by kernel_rfl))
  f11 := Tryz.func56.trans (congrArg some (by kernel_rfl))
  f13 := Tryz.func57.trans (congrArg some (by kernel_rfl))
  f15 := Tryz.func58.trans (congrArg some (by kernel_rfl))
  f16 := Tryz.func74.trans (congrArg some (by kernel_rfl))
  f17 := Tryz.func82.trans (congrArg some (by kernel_rfl))
  f18 := Tryz.func76.trans (congrArg some (by kernel_rfl))
  f19 := Tryz.func75.trans (congrArg some (by kernel_rfl))
  f20 := Tryz.func93.trans (congrArg some (by kernel_rfl))
  f21 := Tryz.func88.trans (congrArg some (by kernel_rfl))
  t0 := Tryz.underlying0
  a0 := Tryz.isAgg0
  z0 := Tryz.sizeOf0
  v0 := Tryz.zeroValue0
  t3 := Tryz.underlying3
  a3 := Tryz.isAgg3
  z3 := Tryz.sizeOf3
  v3 := Tryz.zeroValue3
  t4 := Tryz.underlying4
  a4 := Tryz.isAgg4
  z4 := Tryz.sizeOf4
  v4 := Tryz.zeroValue4
  t5 := Tryz.underlying5
  a5 := Tryz.isAgg5
  z5 := Tryz.sizeOf5
  v5 := Tryz.zeroValue5
  t9 := Tryz.underlying9
  a9 := Tryz.isAgg9
  z9 := Tryz.sizeOf9
  v9 := Tryz.zeroValue9
  t21 := Tryz.underlying21
  a21 := Tryz.isAgg21
  z21 := Tryz.sizeOf21
  v21 := Tryz.zeroValue21
  t22 := Tryz.underlying34
  a22 := Tryz.isAgg34
  z22 := Tryz.sizeOf34
  v22 := Tryz.zeroValue34
  t27 := Tryz.underlying94
  a27 := Tryz.isAgg94
  z27 := Tryz.sizeOf94
  t28 := Tryz.underlying95
  a28 := Tryz.isAgg95
  z28 := Tryz.sizeOf95
  v28 := Tryz.zeroValue95
  t31 := Tryz.underlying98
  a31 := Tryz.isAgg98
  z31 := Tryz.sizeOf98
  v31 := Tryz.zeroValue98
  t33 := Tryz.underlying118
  a33 := Tryz.isAgg118
  z33 := Tryz.sizeOf118
  v33 := Tryz.zeroValue118
  t36 := Tryz.underlying149
  a36 := Tryz.isAgg149
  z36 := Tryz.sizeOf149
  t37 := Tryz.underlying116
  a37 := Tryz.isAgg116
  z37 := Tryz.sizeOf116
  v37 := Tryz.zeroValue116
  t39 := Tryz.underlying151
  a39 := Tryz.isAgg151
  z39 := Tryz.sizeOf151
  v39 := Tryz.zeroValue151
  t40 := Tryz.underlying152
  a40 := Tryz.isAgg152
  z40 := Tryz.sizeOf152
  v40 := Tryz.zeroValue152 }
def Tryz.laysV6_ren : Go.Shelf.Ren := ⟨fun | 6 => 47 | 10 => 55 | 9 => 61 | 11 => 56 | 13 => 57 | 12 => 62 | 15 => 58 | 14 => 63 | 16 => 74 | 19 => 75 | 18 => 76 | 17 => 82 | 21 => 88 | 20 => 93 | n => n, fun | 22 => 34 | 9 => 9 | 3 => 3 | 4 => 4 | 5 => 5 | 28 => 95 | 27 => 94 | 0 => 0 | 31 => 98 | 21 => 21 | 33 => 118 | 36 => 149 | 37 => 116 | 40 => 152 | 39 => 151 | n => n, fun | 0 => 3 | 1 => 4 | n => n⟩
theorem Tryz.laysV6 : Go.Proofs.SlLaysV.n6 Tryz.prog Tryz.laysV6_ren := {
  mixed := by kernel_rfl
  f6 := Tryz.func47.trans (congrArg some (by kernel_rfl))
  f9 := Tryz.func61.trans (congrArg some (by kernel_rfl))
  f10 := Tryz.func55.trans (congrArg some (by kernel_rfl))
  f11 := Tryz.func56.trans (congrArg some (by kernel_rfl))
  f12 := Tryz.func62.trans (congrArg some (by kernel_rfl))
  f13 := Tryz.func57.trans (congrArg some (by kernel_rfl))
  f14 := Tryz.func63.trans (congrArg some (by kernel_rfl))
  f15 := Tryz.func58.trans (congrArg some (by kernel_rfl))
  f16 := Tryz.func74.trans (congrArg some (by kernel_rfl))
  f17 := Tryz.func82.trans (congrArg some (by kernel_rfl))
  f18 := Tryz.func76.trans (congrArg some (by kernel_rfl))
  f19 := Tryz.func75.trans (congrArg some (by kernel_rfl))
  f20 := Tryz.func93.trans (congrArg some (by kernel_rfl))
  f21 := Tryz.func88.trans (congrArg some (by kernel_rfl))
  t0 := Tryz.underlying0
  a0 := Tryz.isAgg0
  z0 := Tryz.sizeOf0
  v0 := Tryz.zeroValue0
  t3 := Tryz.underlying3
  a3 := Tryz.isAgg3
  z3 := Tryz.sizeOf3
  v3 := Tryz.zeroValue3
  t4 := Tryz.underlying4
  a4 := Tryz.isAgg4
  z4 := Tryz.sizeOf4
  v4 := Tryz.zeroValue4
  t5 := Tryz.underlying5
  a5 := Tryz.isAgg5
  z5 := Tryz.sizeOf5
  v5 := Tryz.zeroValue5
  t9 := Tryz.underlying9
  a9 := Tryz.isAgg9
  z9 := Tryz.sizeOf9
  v9 := Tryz.zeroValue9
  t21 := Tryz.underlying21
  a21 := Tryz.isAgg21
  z21 := Tryz.sizeOf21
  v21 := Tryz.zeroValue21
  t22 := Tryz.underlying34
  a22 := Tryz.isAgg34
  z22 := Tryz.sizeOf34
  v22 := Tryz.zeroValue34
  t27 := Tryz.underlying94
  a27 := Tryz.isAgg94
  z27 := Tryz.sizeOf94
  t28 := Tryz.underlying95
  a28 := Tryz.isAgg95
  z28 := Tryz.sizeOf95
  v28 := Tryz.zeroValue95
  t31 := Tryz.underlying98
  a31 := Tryz.isAgg98
  z31 := Tryz.sizeOf98
  v31 := Tryz.zeroValue98
  t33 := Tryz.underlying118
  a33 := Tryz.isAgg118
  z33 := Tryz.sizeOf118
  v33 := Tryz.zeroValue118
  t36 := Tryz.underlying149
  a36 := Tryz.isAgg149
  z36 := Tryz.sizeOf149
  t37 := Tryz.underlying116
  a37 := Tryz.isAgg116
  z37 := Tryz.sizeOf116
  v37 := Tryz.zeroValue116
  t39 := Tryz.underlying151
  a39 := Tryz.isAgg151
  z39 := Tryz.sizeOf151
  v39 := Tryz.zeroValue151
  t40 := Tryz.underlying152
  a40 := Tryz.isAgg152
  z40 := Tryz.sizeOf152
  v40 := Tryz.zeroValue152 }
open Go.RowKit in
/-- strconv.Atoi, AT EVERY STRING THAT SPELLS AN int ('Lib.atoiAll .. = .ok v'; of whatever length: leading zeros count): v, AND NO ERROR. The world: as it was, or with the one new row that '[]byte(..)' lays. (LAID: no walk: one application.) -/
theorem Tryz.strconv_Atoi_ok (s : ByteArray) (hmax : s.size ≤ 9223372036854775806) (v : Int) (h : Lib.atoiAll s.data.toList = .ok v) (w : World) :
    Calls Tryz.prog 46 #[.string s] w fun e w' => e = .returned (.tuple #[.int .i64 v, .nilIface]) ∧ (w' = w ∨ ∃ t, w' = Lib.bytesWorld w 5 t) := Any.strconv_Atoi_ok Tryz.laysC172 s hmax v h w
open Go.RowKit in
theorem Tryz.strconv_Atoi_syntax_var (s : ByteArray) (hlim : s.size ≤ 281474976710656) (h : Lib.atoiAll s.data.toList = .«syntax») (tp : TypeId) (p : Value) (w : World) (hvar : w.var? Tryz.prog "strconv.ErrSyntax" = some #[.iface tp p]) :
    Calls Tryz.prog 46 #[.string s] w fun e w' => ∃ N, e = .returned (.tuple #[.int .i64 0, .iface 124 (.pointer (some ⟨N, 0, none⟩))]) ∧ w.heap.size ≤ N ∧ w'.heap[N]? = some (.cells #[.string ⟨#[65, 116, 111, 105]⟩, .string s, .iface tp p] 140 (0, 0)) ∧ Below w.heap.size w w' := Any.strconv_Atoi_syntax_var Tryz.laysC172 s hlim h tp p w hvar
open Go.RowKit in
theorem Tryz.strconv_Atoi_range_var (s : ByteArray) (hlim : s.size ≤ 281474976710656) (h : Lib.atoiAll s.data.toList = .range) (tp : TypeId) (p : Value) (w : World) (hvar : w.var? Tryz.prog "strconv.ErrRange" = some #[.iface tp p]) :
    Calls Tryz.prog 46 #[.string s] w fun e w' => ∃ N, e = .returned (.tuple #[.int .i64 (Lib.atoiSat s.data.toList), .iface 124 (.pointer (some ⟨N, 0, none⟩))]) ∧ w.heap.size ≤ N ∧ w'.heap[N]? = some (.cells #[.string ⟨#[65, 116, 111, 105]⟩, .string s, .iface tp p] 140 (0, 0)) ∧ Below w.heap.size w w' := Any.strconv_Atoi_range_var Tryz.laysC172 s hlim h tp p w hvar
open Go.RowKit Go.Sort Go.Lib in
/-- internal/strconv.AppendUint(dst, i, 10), i BELOW 100: WHAT COMES BACK OWNS dst's CELLS AND, BEHIND THEM, i's DECIMAL NUMERAL. No table is read. Below the call's own blocks nothing has turned. (LAID: no walk: one application.) -/
theorem Tryz.internal_strconv_AppendUint_10_small (B n u : Nat) (hu : u < 100) (sv : Value) (xs : List Value) (w : World) (hown : w.ownsRow B 5 1 sv n xs) (hBw : B ≤ w.heap.size) (hlim : n + 20 ≤ 140737488355328) :
    Calls Tryz.prog 94 #[sv, .int .u64 u, .int .i64 10] w fun e w' => ∃ v', e = .returned v' ∧ w'.ownsRow B 5 1 v' (n + (Lib.decDigits u).length) (xs ++ Lib.byteCells (Lib.decDigits u)) ∧ Below B w w' ∧ Lib.OthersKept 5 none w w' := Any.internal_strconv_AppendUint_10_small Tryz.laysM288 B n u hu sv xs w hown hBw hlim
open Go.RowKit Go.Lib in
/-- bytes.Index at a separator of one byte: "Index returns the index of the first instance of sep in s, or -1 if sep is not present in s.": 'Lib.indexByte' of s's bytes and that byte; the world is as it was. 'xs': s's elements; 'cv': the separator's one byte. (LAID: no walk: one application.) -/
theorem Tryz.bytes_Index_one (b o n c b2 o2 d : Nat) (xs : List Int) (cv : Int) (w : World) (hx : xs.length = n) (hc : ∀ i, i < n → w.cell? ⟨b, o + i, none⟩ = some (.int .u8 (xs.getD i 0))) (hc2 : w.cell? ⟨b2, o2, none⟩ = some (.int .u8 cv)) :
    Calls Tryz.prog 54 #[.slice (some ⟨b, o, none⟩) n c, .slice (some ⟨b2, o2, none⟩) 1 d] w fun e w' => e = .returned (.int .i64 (Lib.indexByte (Lib.bytesOf xs) cv.toNat.toUInt8)) ∧ w' = w := Any.bytes_Index_one Tryz.lays185 b o n c b2 o2 d xs cv w hx hc hc2
open Go.RowKit Go.Lib in
/-- The same where s is nil: -1. (LAID: no walk: one application.) -/
theorem Tryz.bytes_Index_one_nil (b2 o2 d : Nat) (cv : Int) (w : World) (hc2 : w.cell? ⟨b2, o2, none⟩ = some (.int .u8 cv)) :
    Calls Tryz.prog 54 #[.slice none 0 0, .slice (some ⟨b2, o2, none⟩) 1 d] w fun e w' => e = .returned (.int .i64 (-1)) ∧ w' = w := Any.bytes_Index_one_nil Tryz.lays185 b2 o2 d cv w hc2
open Go.RowKit Go.Lib in
/-- bytes.Index at a separator of one byte, s at whatever address. (LAID: no walk: one application.) -/
theorem Tryz.bytes_Index_one_at (a : Addr) (n c b2 o2 d : Nat) (xs : List Int) (cv : Int) (w : World) (hx : xs.length = n) (hc : ∀ i, i < n → w.cell? (a.add i) = some (.int .u8 (xs.getD i 0))) (hc2 : w.cell? ⟨b2, o2, none⟩ = some (.int .u8 cv)) :
    Calls Tryz.prog 54 #[.slice (some a) n c, .slice (some ⟨b2, o2, none⟩) 1 d] w fun e w' => e = .returned (.int .i64 (Lib.indexByte (Lib.bytesOf xs) cv.toNat.toUInt8)) ∧ w' = w := Any.bytes_Index_one_at Tryz.lays185 a n c b2 o2 d xs cv w hx hc hc2
/-- bytes.Equal: WHOLE. (LAID: no walk: one application.) -/
theorem Tryz.bytes_Equal_all (p1 p2 : Option Addr) (n c m d : Nat) (xs ys : List Int) (w : World) (hx : xs.length = n) (hy : ys.length = m) (h1 : Lib.BytesIn w p1 n xs) (h2 : Lib.BytesIn w p2 m ys) :
    Calls Tryz.prog 48 #[.slice p1 n c, .slice p2 m d] w fun e w' => e = .returned (.bool (Lib.bytesOf xs == Lib.bytesOf ys)) ∧ w' = w := Any.bytes_Equal_all Tryz.laysnb115 p1 p2 n c m d xs ys w hx hy h1 h2
/-- THE WALK, bytes.Index's answer a premise: whatever the two slices' addresses. (LAID: no walk: one application.) -/
theorem Tryz.bytes_Cut_of (p1 p2 : Option Addr) (n c1 k c2 : Nat) (i : Int) (w : World) (hcap : n ≤ c1) (hlo : -1 ≤ i) (hroom : 0 ≤ i → i + k ≤ n) (hn : n ≤ 4611686018427387904) (hidx : Calls Tryz.prog 54 #[.slice p1 n c1, .slice p2 k c2] w fun e w' => e = .returned (.int .i64 i) ∧ ∃ q, w' = w.drewN q) :
    Calls Tryz.prog 44 #[.slice p1 n c1, .slice p2 k c2] w fun e w' => e = .returned (Lib.cutV p1 n c1 k i) ∧ ∃ q, w' = w.drewN q := Any.bytes_Cut_of Tryz.laysSlT4 p1 p2 n c1 k c2 i w hcap hlo hroom hn hidx
end Go.Proofs
/-
  strconv.AppendInt at a small number: its digits behind what is there.
-/
namespace Go.Proofs.YtfkmmhlllnjhoaaGreatDoor
open Go.RowKit
set_option linter.unusedVariables false

theorem byteCells_decI (u : Nat) : Lib.byteCells (Lib.decDigits u) = cellsOf (decI u) := by
  unfold Lib.byteCells cellsOf decI
  rw [List.map_map]
  rfl
theorem length_decI (u : Nat) : (Lib.decDigits u).length = (decI u).length := by simp [decI]

set_option maxHeartbeats 800000 in
theorem AppendInt_kept (B u : Nat) (sv : Value) (xs : List Int) (w : World) (hu : u < 100) (hB : Bts w B sv xs) (hBw : B ≤ w.heap.size) (hl : xs.length ≤ 2097152) :
    Calls Tryz.prog 65 #[sv, .int .i64 u, .int .i64 10] w fun e w' => ∃ v, e = .returned v ∧ Bts w' B v (xs ++ decI u) ∧ Below B w w' ∧ Lib.OthersKept 5 none w w' := by
  have HU := hide' (Tryz.internal_strconv_AppendUint_10_small B xs.length u hu sv (cellsOf xs) w hB.2 hBw (by omega))
  have HF : Hid (∀ v' w', w'.ownsRow B 5 1 v' (xs.length + (Lib.decDigits u).length) (cellsOf xs ++ Lib.byteCells (Lib.decDigits u)) → Bts w' B v' (xs ++ decI u)) := by
    intro v' w' h
    refine ⟨?_, ?_⟩
    · intro z hz
      rcases List.mem_append.1 hz with h1 | h1
      · exact hB.1 z h1
      · exact decI_byt u z h1
    · rw [byteCells_decI, length_decI, ← cellsOf_append] at h
      rw [List.length_append]
      exact h
  have h0 : ¬ (u : Int) < 0 := by omega
  have HI : Hid (Calls Tryz.prog 83 #[sv, .int .i64 u, .int .i64 10] w fun e w' => ∃ v, e = .returned v ∧ Bts w' B v (xs ++ decI u) ∧ Below B w w' ∧ Lib.OthersKept 5 none w w') := by
    show Calls _ _ _ _ _
    clear hB
    go_enter Tryz.func83, Tryz.ntmps83
    go_wp2_with fail
    refine HU.out.mono ?_
    rintro e w1 ⟨v1, rfl, ho, hb, hk⟩
    have HB := hide' (HF.out _ _ ho)
    clear ho
    go_wp2
    go_ret
    exact ⟨_, rfl, HB.out, hb, hk⟩
  clear hB HU HF
  go_enter Tryz.func65, Tryz.ntmps65
  go_wp2_with fail
  refine HI.out.mono ?_
  rintro e w1 ⟨v1, rfl, hB1, hb, hk⟩
  go_wp2
  go_ret
  exact ⟨_, rfl, hB1, hb, hk⟩

theorem AppendInt_small (B u : Nat) (sv : Value) (xs : List Int) (w : World) (hu : u < 100) (hB : Bts w B sv xs) (hBw : B ≤ w.heap.size) (hl : xs.length ≤ 2097152) :
    Calls Tryz.prog 65 #[sv, .int .i64 u, .int .i64 10] w fun e w' => ∃ v, e = .returned v ∧ Bts w' B v (xs ++ decI u) ∧ Below B w w' :=
  (AppendInt_kept B u sv xs w hu hB hBw hl).mono fun e w' ⟨v, h1, h2, h3, _⟩ => ⟨v, h1, h2, h3⟩
end Go.Proofs.YtfkmmhlllnjhoaaGreatDoor
/-
  AddrItem of the program and of the specification: a name with a number.
-/
namespace Go.Proofs.YtfkmmhlllnjhoaaGreatDoor
open Go.RowKit
set_option linter.unusedVariables false

/-- What AddrItem answers. -/
def addrItem (xs : List Int) (n : Int) : List Int := if nameB xs = true ∧ 0 ≤ n ∧ n ≤ 99 then xs ++ [91] ++ decI n.toNat ++ [93] else []
theorem addrItem_no (xs : List Int) (n : Int) (h : ¬ (nameB xs = true ∧ 0 ≤ n ∧ n ≤ 99)) : addrItem xs n = [] := if_neg h
theorem addrItem_yes (xs : List Int) (u : Nat) (h1 : nameB xs = true) (h2 : u ≤ 99) : addrItem xs u = xs ++ [91] ++ decI u ++ [93] := by
  unfold addrItem
  rw [if_pos ⟨h1, by omega, by omega⟩]
  simp
theorem addrItem_len (xs : List Int) (n : Int) : (addrItem xs n).length ≤ 12 := by
  unfold addrItem
  split
  · rename_i h
    have h1 := nameB_le h.1
    have h2 := decI_two (u := n.toNat) (by omega)
    simp; omega
  · simp

set_option maxHeartbeats 800000 in
theorem impl_AddrItem_any (a : Option Addr) (c1 : Nat) (xs : List Int) (n : Int) (w : World) (ha : Seg w a xs) (ka : a = none → c1 = 0) (hl : xs.length ≤ maxLen) :
    Calls Tryz.prog 49 #[.slice a xs.length c1, .int .i64 n] w fun e w' => ∃ v, e = .returned v ∧ Bts w' w.heap.size v (addrItem xs n) ∧ Below w.heap.size w w' := by
  have HA := hide' (impl_NameOk_any a c1 xs w ha hl)
  by_cases h1 : nameB xs = true
  · rw [h1] at HA
    by_cases h2 : n < 0
    · have Hp : Hid (addrItem xs n = []) := addrItem_no xs n fun h => by omega
      go_enter Tryz.func49, Tryz.ntmps49
      go_wp2_with fail
      refine HA.out.mono ?_
      rintro e w1 ⟨rfl, rfl⟩
      go_wp2
      go_ret
      exact ⟨_, rfl, by rw [Hp.out]; exact bts_nil _ _, Below.refl _ _⟩
    · by_cases h3 : 99 < n
      · have Hp : Hid (addrItem xs n = []) := addrItem_no xs n fun h => by omega
        go_enter Tryz.func49, Tryz.ntmps49
        go_wp2_with fail
        refine HA.out.mono ?_
        rintro e w1 ⟨rfl, rfl⟩
        go_wp2
        go_ret
        exact ⟨_, rfl, by rw [Hp.out]; exact bts_nil _ _, Below.refl _ _⟩
      · obtain ⟨u, rfl⟩ : ∃ u : Nat, n = u := ⟨n.toNat, by omega⟩
        have hu : u ≤ 99 := by omega
        have hd2 := decI_two (u := u) (by omega)
        have HN := hide' (nameAlone_any a c1 xs w ha ka hl)
        have hnc : nameC xs = xs := by simp [nameC, h1]
        rw [hnc] at HN
        have hl8 := (nameB_le h1).2
        have Hp : Hid (addrItem xs u = xs ++ [91] ++ decI u ++ [93]) := addrItem_yes xs u h1 hu
        have HI : Hid (∀ (v : Value) (w1 : World), Bts w1 w.heap.size v (xs ++ [91]) → w.heap.size ≤ w1.heap.size → Calls Tryz.prog 65 #[v, .int .i64 u, .int .i64 10] w1 fun e w' => ∃ v', e = .returned v' ∧ Bts w' w.heap.size v' (xs ++ [91] ++ decI u) ∧ Below w.heap.size w1 w') := fun v w1 hv hz => AppendInt_small w.heap.size u v (xs ++ [91]) w1 (by omega) hv hz (by simp; omega)
        go_enter Tryz.func49, Tryz.ntmps49
        go_wp2_with fail
        refine HA.out.mono ?_
        rintro e w1 ⟨rfl, rfl⟩
        go_wp2_with fail
        refine HN.out.mono ?_
        rintro e w2 ⟨v2, rfl, hv2, hB2⟩
        have hz2 := hB2.size
        have hA2 := hv2.alloc (.cells #[.int .u8 91] 5)
        have hS2 := seg_one w2 91 (by simp [Byt])
        have hB2a := hB2.alloc hz2 (.cells #[.int .u8 91] 5)
        go_wp2_with (at_builtin; refine wpList_append_seg rfl (.tmp 18) (.tmp 19) (by rfl) w.heap.size v2 xs [91] (by rfl) hA2 _ 1 1 rfl (by rfl) hS2 (by simp) (by simp; omega) (by simp; omega) ?_; intro v3 w3 hv3 hg3; have hB3 := hB2a.grown hg3 (by simp; omega) hA2.own; have hz3 := hB3.size; clear hv2 hA2 hB2 hB2a hS2 hg3)
        refine (HI.out _ _ hv3 hz3).mono ?_
        rintro e w4 ⟨v4, rfl, hv4, b4⟩
        have hB4 := hB3.trans b4
        have hz4 := hB4.size
        have hA4 := hv4.alloc (.cells #[.int .u8 93] 5)
        have hS4 := seg_one w4 93 (by simp [Byt])
        have hB4a := hB4.alloc hz4 (.cells #[.int .u8 93] 5)
        clear hv3 hB3 b4
        go_wp2_with (at_builtin; refine wpList_append_seg rfl (.tmp 23) (.tmp 24) (by rfl) w.heap.size v4 (xs ++ [91] ++ decI u) [93] (by rfl) hA4 _ 1 1 rfl (by rfl) hS4 (by simp) (by simp; omega) (by simp; omega) ?_; intro v6 w6 hv6 hg6; have hB6 := hB4a.grown hg6 (by simp; omega) hA4.own; clear hv4 hA4 hB4 hB4a hS4 hg6)
        go_ret
        exact ⟨_, rfl, by rw [Hp.out]; exact hv6, hB6⟩
  · have h1' : nameB xs = false := by simpa using h1
    rw [h1'] at HA
    have Hp : Hid (addrItem xs n = []) := addrItem_no xs n fun h => h1 h.1
    go_enter Tryz.func49, Tryz.ntmps49
    go_wp2_with fail
    refine HA.out.mono ?_
    rintro e w1 ⟨rfl, rfl⟩
    go_wp2
    go_ret
    exact ⟨_, rfl, by rw [Hp.out]; exact bts_nil _ _, Below.refl _ _⟩

end Go.Proofs.YtfkmmhlllnjhoaaGreatDoor
/-
  A string of bytes as cells; 'append(out, s...)' of a string.
-/
namespace Go.Proofs.YtfkmmhlllnjhoaaGreatDoor
open Go.RowKit
set_option linter.unusedVariables false

theorem strCells_of {xs : List Int} (h : ∀ x ∈ xs, Byt x) : Lib.strCells (strOf xs) = cellsOf xs := by
  show (u8s xs).map (fun b => Value.int .u8 (b.toNat : Int)) = _
  unfold u8s cellsOf
  rw [List.map_map]
  refine List.map_congr_left fun x hx => ?_
  have hb := h x hx
  unfold Byt at hb
  simp
  omega

theorem size_strOf (xs : List Int) : (strOf xs).size = xs.length := by simp [strOf, ByteArray.size]

/-- 'append(out, s...)', out nil or the call's own, s a string: what is owned grows by the bytes of s. -/
theorem wpList_append_text {w : World} {ops : Array Oper} {rest : List Oper} {o : Oper} {a : Act} {Q : Exit → Act → World → Prop} (hgd : o.guard = none) (s x : Operand) (t : TypeId)
    (ho : o.op = .call { callee := .builtin .append, args := #[s, x], argTypes := #[34, t] }) (ht : Tryz.prog.underlying t = some .string)
    (base : Nat) (v : Value) (xs ys : List Int) (hs : a.eval s = v) (hB : Bts w base v xs) (sx : ByteArray) (hsx : sx = strOf ys) (hy : ∀ y ∈ ys, Byt y) (hx : a.eval x = .string sx)
    (hlen : xs.length + ys.length ≤ 1099511627776) (hbase : base ≤ w.heap.size)
    (h : ∀ v' w', Bts w' base v' (xs ++ ys) → w.grownBy w' v.ownBlock → wpList Tryz.prog ops Q rest (a.put o.dst v') w') : wpList Tryz.prog ops Q (o :: rest) a w := by
  obtain ⟨i0, hi, hz0, hz1, hz2⟩ := info_parts info5
  subst hsx
  have hsz := size_strOf ys
  refine Lib.wpList_append_own_string w hgd s x 34 t ho base 5 i0 Tryz.underlying34 ht hi hz0 hz1 hz2 v xs.length (cellsOf xs) hs hB.2 (strOf ys) hx (by unfold maxLen; omega) (by omega) hbase ?_
  intro v' w' hown hg _
  refine h v' w' ⟨?_, ?_⟩ hg
  · intro z hz
    rcases List.mem_append.1 hz with h1 | h1
    · exact hB.1 z h1
    · exact hy z h1
  · rw [strCells_of hy, hsz, ← cellsOf_append] at hown
    rw [List.length_append]
    exact hown

end Go.Proofs.YtfkmmhlllnjhoaaGreatDoor
/-
  AddrKey of the program: a name with a key.
-/
namespace Go.Proofs.YtfkmmhlllnjhoaaGreatDoor
open Go.RowKit
set_option linter.unusedVariables false

/-- What AddrKey answers. -/
def addrKey (xs ts : List Int) : List Int := if nameB xs = true ∧ nameB ts = true then xs ++ [91, 34] ++ ts ++ [34, 93] else []
theorem addrKey_no (xs ts : List Int) (h : ¬ (nameB xs = true ∧ nameB ts = true)) : addrKey xs ts = [] := if_neg h
theorem addrKey_yes (xs ts : List Int) (h1 : nameB xs = true) (h2 : nameB ts = true) : addrKey xs ts = xs ++ [91, 34] ++ ts ++ [34, 93] := if_pos ⟨h1, h2⟩
theorem addrKey_len (xs ts : List Int) : (addrKey xs ts).length ≤ 20 := by
  unfold addrKey
  split
  · rename_i h
    have h1 := nameB_le h.1
    have h2 := nameB_le h.2
    simp; omega
  · simp

theorem byt_open : ∀ y ∈ ([91, 34] : List Int), Byt y := by simp [Byt]
theorem byt_shut : ∀ y ∈ ([34, 93] : List Int), Byt y := by simp [Byt]
theorem str_open : (⟨#[91, 34]⟩ : ByteArray) = strOf [91, 34] := rfl
theorem str_shut : (⟨#[34, 93]⟩ : ByteArray) = strOf [34, 93] := rfl

set_option maxHeartbeats 800000 in
theorem impl_AddrKey_any (a b : Option Addr) (c1 c2 : Nat) (xs ts : List Int) (w : World) (ha : Seg w a xs) (hb : Seg w b ts) (ka : a = none → c1 = 0) (kb : b = none → c2 = 0) (hl : xs.length ≤ 2097152) (hl2 : ts.length ≤ 2097152) :
    Calls Tryz.prog 50 #[.slice a xs.length c1, .slice b ts.length c2] w fun e w' => ∃ v, e = .returned v ∧ Bts w' w.heap.size v (addrKey xs ts) ∧ Below w.heap.size w w' := by
  have HA := hide' (impl_NameOk_any a c1 xs w ha (by unfold maxLen; omega))
  have HB := hide' (impl_NameOk_any b c2 ts w hb (by unfold maxLen; omega))
  by_cases h1 : nameB xs = true
  · rw [h1] at HA
    by_cases h2 : nameB ts = true
    · rw [h2] at HB
      have HN := hide' (nameAlone_any a c1 xs w ha ka (by unfold maxLen; omega))
      have hnc : nameC xs = xs := by simp [nameC, h1]
      rw [hnc] at HN
      have Hp : Hid (addrKey xs ts = xs ++ [91, 34] ++ ts ++ [34, 93]) := addrKey_yes xs ts h1 h2
      generalize hn : xs.length = n at *
      have Hn : Hid (n = xs.length) := hn.symm
      clear hn
      generalize hm : ts.length = m at *
      have Hm : Hid (m = ts.length) := hm.symm
      clear hm
      go_enter Tryz.func50, Tryz.ntmps50
      go_wp2_with fail
      refine HA.out.mono ?_
      rintro e w1 ⟨rfl, rfl⟩
      go_wp2_with fail
      refine HB.out.mono ?_
      rintro e w1 ⟨rfl, rfl⟩
      go_wp2_with fail
      refine HN.out.mono ?_
      rintro e w1 ⟨v2, rfl, hv2, hB2⟩
      have hz2 := hB2.size
      go_wp2_with (at_builtin; first
        | (refine wpList_append_text rfl (.tmp 15) _ 9 (by rfl) Tryz.underlying9 w.heap.size v2 xs [91, 34] (by rfl) hv2 _ str_open byt_open (by rfl) (by simp; have := Hn.out; omega) hz2 ?_; intro v3 w3 hv3 hg3; have hB3 := hB2.grown hg3 hz2 hv2.own; have hT3 := hb.grow hB3; have hz3 := hB3.size; clear hv2 hB2 hg3)
        | (refine wpList_append_seg rfl (.tmp 17) (.tmp 18) (by rfl) w.heap.size v3 (xs ++ [91, 34]) ts (by rfl) hv3 b m c2 Hm.out (by rfl) hT3 kb (by simp; have := Hn.out; have := Hm.out; omega) hz3 ?_; intro v4 w4 hv4 hg4; have hB4 := hB3.grown hg4 hz3 hv3.own; have hz4 := hB4.size; clear hv3 hB3 hT3 hg4)
        | (refine wpList_append_text rfl (.tmp 19) _ 9 (by rfl) Tryz.underlying9 w.heap.size v4 (xs ++ [91, 34] ++ ts) [34, 93] (by rfl) hv4 _ str_shut byt_shut (by rfl) (by simp; have := Hn.out; have := Hm.out; omega) hz4 ?_; intro v5 w5 hv5 hg5; have hB5 := hB4.grown hg5 hz4 hv4.own; clear hv4 hB4 hg5))
      go_ret
      exact ⟨_, rfl, by rw [Hp.out]; exact hv5, hB5⟩
    · have h2' : nameB ts = false := by simpa using h2
      rw [h2'] at HB
      have Hp : Hid (addrKey xs ts = []) := addrKey_no xs ts fun h => h2 h.2
      go_enter Tryz.func50, Tryz.ntmps50
      go_wp2_with fail
      refine HA.out.mono ?_
      rintro e w1 ⟨rfl, rfl⟩
      go_wp2_with fail
      refine HB.out.mono ?_
      rintro e w1 ⟨rfl, rfl⟩
      go_wp2
      go_ret
      exact ⟨_, rfl, by rw [Hp.out]; exact bts_nil _ _, Below.refl _ _⟩
  · have h1' : nameB xs = false := by simpa using h1
    rw [h1'] at HA
    have Hp : Hid (addrKey xs ts = []) := addrKey_no xs ts fun h => h1 h.1
    go_enter Tryz.func50, Tryz.ntmps50
    go_wp2_with fail
    refine HA.out.mono ?_
    rintro e w1 ⟨rfl, rfl⟩
    go_wp2
    go_ret
    exact ⟨_, rfl, by rw [Hp.out]; exact bts_nil _ _, Below.refl _ _⟩

end Go.Proofs.YtfkmmhlllnjhoaaGreatDoor
