/-
  DERIVED: THE SHELF's CONTRACTS AT THIS DUMP, IN PLAIN WORDS (tools/lay-plain.mjs out of 'TryzShelf.lean', which tools/lay-shelf.mjs wrote): THE SAME DECLARATIONS UNDER THE SAME NAMES: 'import', 'namespace', 'open', 'def', 'theorem' AND NOTHING ELSE: no command of the shelf's: FOR A HAND-IN. Each laying: the table of numbers ('.._ren') and one theorem, a field a fact of the dump's own or the kernel's comparison; each contract: ONE APPLICATION.
-/
import Derived.Shelf.Strings.Builder1
import Derived.Shelf.Strings.Builder2
import Derived.Shelf.Small.Utf8
import Derived.Shelf.Small.Strs
import Derived.Shelf.Small.Wraps
import Derived.Shelf.Utf8.RuneCount
import Derived.Shelf.Strconv.Atoi
import Derived.Shelf.Strconv.Itoa0
import Derived.Shelf.Strconv.Itoa1
import Derived.Shelf.LaysM
import Derived.Shelf.Strconv.Itoa2
import Derived.Shelf.Strconv.Itoa3
import Derived.Shelf.Strconv.AtoiErrFast
import Derived.Shelf.Strconv.ParseIntEmpty
import Derived.Shelf.Strconv.AtoiFail
import Derived.Shelf.Strconv.Clone
import Derived.Shelf.Strconv.SyntaxError
import Derived.Shelf.LaysC
import Derived.Shelf.Strconv.ToError
import Derived.Shelf.Strconv.Lower
import Derived.Shelf.Strconv.ParseUint10
import Derived.Shelf.Strconv.ParseUint10Empty
import Derived.Shelf.Strconv.ParseUint10Any
import Derived.Shelf.Strconv.ParseInt10
import Derived.Shelf.Strconv.AtoiLong
import Derived.Shelf.Strconv.AtoiInnerAll
import Derived.Shelf.Strconv.RangeError
import Derived.Shelf.Strconv.ToErrorRange
import Derived.Shelf.Strconv.AtoiAll
import Derived.Shelf.Strconv.ErrVarAll
import Derived.Shelf.Strings.Search1
import Derived.Shelf.Strings.Search2
import Derived.Shelf.Strings.Search3
import Derived.Shelf.Strings.Count
import Derived.Shelf.Strings.Shaped
import Derived.Shelf.Strings.Prefix
import Derived.Shelf.Strings.Split
import Derived.Shelf.Strings.Fields
import Derived.Shelf.Strings.Replace
import Derived.Shelf.Strings.SplitShaped
import Derived.Shelf.Unicode.Latin
import Derived.Shelf.Unicode.Decode
import Derived.Shelf.Strings.Runes
import Derived.Shelf.Strings.RuneCount
import Derived.Shelf.Strings.IndexAny
import Derived.Shelf.Strings.AsciiSet
import Derived.Shelf.Strings.IndexAnyAll
import Derived.Shelf.Unicode.DecodeSlow
import Derived.Shelf.Unicode.DecodeAny
import Derived.Shelf.Unicode.Is16White
import Derived.Shelf.Unicode.IsSpaceAny
import Derived.Shelf.Unicode.DecodeLast
import Derived.Shelf.Strings.FieldsFuncAny
import Derived.Shelf.Unicode.Is16Any
import Derived.Shelf.Unicode.Is32Any
import Derived.Shelf.Unicode.ExclAny
import Derived.Shelf.Strings.FieldsFuncGrows
import Derived.Test.YtnddkmccagiclaaGreatDoorProg
import Derived.Test.YtnddkmccagiclaaGreatDoorLotb19f3f36a9
import Derived.Test.YtnddkmccagiclaaGreatDoorLot65fc3629a9
namespace Go.Proofs
open Go.Shelf
open Go.RowKit in
open Go.RowKit in
open Go.RowKit in
open Go.RowKit in
open Go.RowKit in
open Go.RowKit in
open Go.RowKit in
def Tryz.lays103_ren : Go.Shelf.Ren := ⟨fun | 103 => 55 | 210 => 86 | 206 => 122 | n => n, fun | 9 => 9 | 4 => 4 | 24 => 95 | 3 => 3 | n => n, fun | n => n⟩
theorem Tryz.lays103 : Go.Proofs.Lays.n103 Tryz.prog Tryz.lays103_ren := {
  mixed := by kernel_rfl
  f103 := Tryz.func55.trans (congrArg some (by kernel_rfl))
  f206 := Tryz.func122.trans (congrArg some (by kernel_rfl))
  f210 := Tryz.func86.trans (congrArg some (by kernel_rfl))
  t3 := Tryz.underlying3
  a3 := Tryz.isAgg3
  z3 := Tryz.sizeOf3
  v3 := Tryz.zeroValue3
  t4 := Tryz.underlying4
  a4 := Tryz.isAgg4
  z4 := Tryz.sizeOf4
  v4 := Tryz.zeroValue4
  t9 := Tryz.underlying9
  a9 := Tryz.isAgg9
  z9 := Tryz.sizeOf9
  v9 := Tryz.zeroValue9
  t24 := Tryz.underlying95
  a24 := Tryz.isAgg95
  z24 := Tryz.sizeOf95
  v24 := Tryz.zeroValue95 }
open Go.RowKit in
/-- strings.CutPrefix: "CutPrefix returns s without the provided leading prefix string and reports whether it found the prefix. If s doesn't start with prefix, CutPrefix returns s, false. If prefix is the empty string, CutPrefix returns s, true.": IT RETURNS '(Lib.trimPrefix s p, Lib.hasPrefix s p)'; the world is as it was. (LAID: no walk: one application.) -/
theorem Tryz.strings_CutPrefix (s p : ByteArray) (w : World) :
    Calls Tryz.prog 55 #[.string s, .string p] w fun e w' => e = .returned (.tuple #[.string ⟨(Lib.trimPrefix s.data.toList p.data.toList).toArray⟩, .bool (Lib.hasPrefix s.data.toList p.data.toList)]) ∧ w' = w := Any.strings_CutPrefix Tryz.lays103 s p w
open Go.RowKit in
open Go.RowKit in
open Go.RowKit in
open Go.Lib in
open Go.Lib in
open Go.Lib in
open Go.Lib in
open Go.RowKit Go.Sort Go.Lib in
open Go.RowKit Go.Sort Go.Lib in
open Go.RowKit Go.Sort Go.Lib in
open Go.RowKit Go.Sort Go.Lib in
open Go.RowKit Go.Sort Go.Lib in
def Tryz.laysM171_ren : Go.Shelf.Ren := ⟨fun | 171 => 36 | 243 => 70 | 246 => 111 | 283 => 141 | 284 => 142 | 285 => 143 | 286 => 144 | 129 => 172 | 317 => 171 | 318 => 173 | 319 => 174 | 320 => 175 | 337 => 186 | 338 => 187 | n => n, fun | 3 => 3 | 9 => 9 | 2 => 2 | 4 => 4 | 171 => 190 | 0 => 0 | 53 => 191 | 37 => 123 | 5 => 5 | 173 => 194 | 212 => 228 | 51 => 173 | 20 => 20 | 213 => 229 | 46 => 185 | 232 => 255 | 233 => 256 | n => n, fun | 17 => 7 | 18 => 12 | 19 => 13 | n => n⟩
theorem Tryz.laysM171 : Go.Proofs.LaysM.n171 Tryz.prog Tryz.laysM171_ren := {
  mixed := by kernel_rfl
  f129 := Tryz.func172.trans (congrArg some (by kernel_rfl))
  f171 := Tryz.func36.trans (congrArg some (by kernel_rfl))
  f243 := Tryz.func70.trans (congrArg some (by kernel_rfl))
  f246 := Tryz.func111.trans (congrArg some (by kernel_rfl))
  f283 := Tryz.func141.trans (congrArg some (by kernel_rfl))
  f284 := Tryz.func142.trans (congrArg some (by kernel_rfl))
  f285 := Tryz.func143.trans (congrArg some (by kernel_rfl))
  f286 := Tryz.func144.trans (congrArg some (by kernel_rfl))
  f317 := Tryz.func171.trans (congrArg some (by kernel_rfl))
  f318 := Tryz.func173.trans (congrArg some (by kernel_rfl))
  f319 := Tryz.func174.trans (congrArg some (by kernel_rfl))
  f320 := Tryz.func175.trans (congrArg some (by kernel_rfl))
  f337 := Tryz.func186.trans (congrArg some (by kernel_rfl))
  f338 := Tryz.func187.trans (congrArg some (by kernel_rfl))
  t0 := Tryz.underlying0
  a0 := Tryz.isAgg0
  z0 := Tryz.sizeOf0
  v0 := Tryz.zeroValue0
  t2 := Tryz.underlying2
  a2 := Tryz.isAgg2
  z2 := Tryz.sizeOf2
  v2 := Tryz.zeroValue2
  t3 := Tryz.underlying3
  a3 := Tryz.isAgg3
  z3 := Tryz.sizeOf3
  v3 := Tryz.zeroValue3
  t4 := Tryz.underlying4
  a4 := Tryz.isAgg4
  z4 := Tryz.sizeOf4
  v4 := Tryz.zeroValue4
  t5 := Tryz.underlying5
  a5 := Tryz.isAgg5
  z5 := Tryz.sizeOf5
  v5 := Tryz.zeroValue5
  t9 := Tryz.underlying9
  a9 := Tryz.isAgg9
  z9 := Tryz.sizeOf9
  v9 := Tryz.zeroValue9
  t20 := Tryz.underlying20
  a20 := Tryz.isAgg20
  z20 := Tryz.sizeOf20
  v20 := Tryz.zeroValue20
  t37 := Tryz.underlying123
  a37 := Tryz.isAgg123
  z37 := Tryz.sizeOf123
  v37 := Tryz.zeroValue123
  t46 := Tryz.underlying185
  a46 := Tryz.isAgg185
  z46 := Tryz.sizeOf185
  v46 := Tryz.zeroValue185
  t51 := Tryz.underlying173
  a51 := Tryz.isAgg173
  z51 := Tryz.sizeOf173
  v51 := Tryz.zeroValue173
  t53 := Tryz.underlying191
  a53 := Tryz.isAgg191
  z53 := Tryz.sizeOf191
  v53 := Tryz.zeroValue191
  t171 := Tryz.underlying190
  a171 := Tryz.isAgg190
  z171 := Tryz.sizeOf190
  v171 := Tryz.zeroValue190
  t173 := Tryz.underlying194
  a173 := Tryz.isAgg194
  z173 := Tryz.sizeOf194
  v173 := Tryz.zeroValue194
  t212 := Tryz.underlying228
  a212 := Tryz.isAgg228
  z212 := Tryz.sizeOf228
  v212 := Tryz.zeroValue228
  t213 := Tryz.underlying229
  a213 := Tryz.isAgg229
  z213 := Tryz.sizeOf229
  t232 := Tryz.underlying255
  a232 := Tryz.isAgg255
  z232 := Tryz.sizeOf255
  v232 := Tryz.zeroValue255
  t233 := Tryz.underlying256
  a233 := Tryz.isAgg256
  z233 := Tryz.sizeOf256
  v233 := Tryz.zeroValue256
  g17 := by kernel_rfl
  g18 := by kernel_rfl
  g19 := by kernel_rfl
  i0 := by kernel_rfl
  i2 := by kernel_rfl
  i3 := by kernel_rfl
  i4 := by kernel_rfl
  i5 := by kernel_rfl
  i9 := by kernel_rfl
  i20 := by kernel_rfl
  i37 := by kernel_rfl
  i46 := by kernel_rfl
  i51 := by kernel_rfl
  i53 := by kernel_rfl
  i171 := by kernel_rfl
  i173 := by kernel_rfl
  i212 := by kernel_rfl
  i232 := by kernel_rfl
  i233 := by kernel_rfl
  m17 := by kernel_rfl
  m18 := by kernel_rfl
  m19 := by kernel_rfl }
open Go.RowKit Go.Sort Go.Lib in
/-- strconv.Itoa: "Itoa is equivalent to FormatInt(int64(i), 10).": i's DECIMAL NUMERAL ('Lib.itoa': a '-' where i is negative, then the digits), FOR EVERY int. The world behind the call: the world before it, new blocks behind the heap (the library's 'var a [24]byte'), draws. (LAID: no walk: one application.) -/
theorem Tryz.strconv_Itoa (n : Int) (h0 : -9223372036854775808 ≤ n) (h1 : n ≤ 9223372036854775807) (w : World) (htab : Lib.TabIs Tryz.prog w "internal/strconv.uint64pow10" .u64 Lib.pow10Tab) :
    Calls Tryz.prog 36 #[.int .i64 n] w fun e w' => e = .returned (.string ⟨(Lib.itoa n).toArray⟩) ∧ ∃ k os, w' = grow (w.drewN k) os := Any.strconv_Itoa Tryz.laysM171 n h0 h1 w htab
open Go.RowKit Go.Sort Go.Lib in
open Go.RowKit in
open Go.RowKit in
open Go.RowKit in
open Go.RowKit in
open Go.RowKit in
open Go.RowKit in
open Go.RowKit in
open Go.RowKit in
open Go.RowKit in
open Go.RowKit in
open Go.RowKit in
open Go.RowKit in
open Go.RowKit in
open Go.RowKit in
open Go.RowKit in
open Go.RowKit in
def Tryz.laysC172_ren : Go.Shelf.Ren := ⟨fun | 172 => 87 | 244 => 123 | 245 => 124 | 247 => 153 | 279 => 154 | 280 => 155 | 281 => 156 | 282 => 157 | 287 => 177 | 316 => 178 | 171 => 36 | 205 => 179 | 321 => 189 | 322 => 190 | 243 => 70 | 246 => 111 | 283 => 141 | 284 => 142 | 285 => 143 | 286 => 144 | 129 => 172 | 317 => 171 | 318 => 173 | 319 => 174 | 320 => 175 | 337 => 186 | 338 => 187 | n => n, fun | 9 => 9 | 3 => 3 | 75 => 130 | 76 => 131 | 4 => 4 | 5 => 5 | 167 => 210 | 37 => 123 | 0 => 0 | 85 => 211 | 2 => 2 | 168 => 213 | 53 => 191 | 175 => 236 | 46 => 185 | 210 => 240 | 127 => 176 | 145 => 253 | 143 => 251 | 21 => 21 | 171 => 190 | 173 => 194 | 212 => 228 | 51 => 173 | 20 => 20 | 213 => 229 | 232 => 255 | 233 => 256 | 80 => 92 | n => n, fun | 15 => 10 | 16 => 11 | 17 => 7 | 18 => 12 | 19 => 13 | n => n⟩
theorem Tryz.laysC172 : Go.Proofs.LaysC.n172 Tryz.prog Tryz.laysC172_ren := {
  mixed := by kernel_rfl
  f129 := Tryz.func172.trans (congrArg some (by kernel_rfl))
  f171 := Tryz.func36.trans (congrArg some (by kernel_rfl))
  f172 := Tryz.func87.trans (congrArg some (by kernel_rfl))
  f205 := Tryz.func179.trans (congrArg some (by kernel_rfl))
  f243 := Tryz.func70.trans (congrArg some (by kernel_rfl))
  f244 := Tryz.func123.trans (congrArg some (by kernel_rfl))
  f245 := Tryz.func124.trans (congrArg some (by kernel_rfl))
  f246 := Tryz.func111.trans (congrArg some (by kernel_rfl))
  f247 := Tryz.func153.trans (congrArg some (by kernel_rfl))
  f279 := Tryz.func154.trans (congrArg some (by kernel_rfl))
  f280 := Tryz.func155.trans (congrArg some (by kernel_rfl))
  f281 := Tryz.func156.trans (congrArg some (by kernel_rfl))
  f282 := Tryz.func157.trans (congrArg some (by kernel_rfl))
  f283 := Tryz.func141.trans (congrArg some (by kernel_rfl))
  f284 := Tryz.func142.trans (congrArg some (by kernel_rfl))
  f285 := Tryz.func143.trans (congrArg some (by kernel_rfl))
  f286 := Tryz.func144.trans (congrArg some (by kernel_rfl))
  f287 := Tryz.func177.trans (congrArg some (by kernel_rfl))
  f316 := Tryz.func178.trans (congrArg some (by kernel_rfl))
  f317 := Tryz.func171.trans (congrArg some (by kernel_rfl))
  f318 := Tryz.func173.trans (congrArg some (by kernel_rfl))
  f319 := Tryz.func174.trans (congrArg some (by kernel_rfl))
  f320 := Tryz.func175.trans (congrArg some (by kernel_rfl))
  f321 := Tryz.func189.trans (congrArg some (by kernel_rfl))
  f322 := Tryz.func190.trans (congrArg some (by kernel_rfl))
  f337 := Tryz.func186.trans (congrArg some (by kernel_rfl))
  f338 := Tryz.func187.trans (congrArg some (by kernel_rfl))
  t0 := Tryz.underlying0
  a0 := Tryz.isAgg0
  z0 := Tryz.sizeOf0
  v0 := Tryz.zeroValue0
  t2 := Tryz.underlying2
  a2 := Tryz.isAgg2
  z2 := Tryz.sizeOf2
  v2 := Tryz.zeroValue2
  t3 := Tryz.underlying3
  a3 := Tryz.isAgg3
  z3 := Tryz.sizeOf3
  v3 := Tryz.zeroValue3
  t4 := Tryz.underlying4
  a4 := Tryz.isAgg4
  z4 := Tryz.sizeOf4
  v4 := Tryz.zeroValue4
  t5 := Tryz.underlying5
  a5 := Tryz.isAgg5
  z5 := Tryz.sizeOf5
  v5 := Tryz.zeroValue5
  t9 := Tryz.underlying9
  a9 := Tryz.isAgg9
  z9 := Tryz.sizeOf9
  v9 := Tryz.zeroValue9
  t20 := Tryz.underlying20
  a20 := Tryz.isAgg20
  z20 := Tryz.sizeOf20
  v20 := Tryz.zeroValue20
  t21 := Tryz.underlying21
  a21 := Tryz.isAgg21
  z21 := Tryz.sizeOf21
  v21 := Tryz.zeroValue21
  t37 := Tryz.underlying123
  a37 := Tryz.isAgg123
  z37 := Tryz.sizeOf123
  v37 := Tryz.zeroValue123
  t46 := Tryz.underlying185
  a46 := Tryz.isAgg185
  z46 := Tryz.sizeOf185
  v46 := Tryz.zeroValue185
  t51 := Tryz.underlying173
  a51 := Tryz.isAgg173
  z51 := Tryz.sizeOf173
  v51 := Tryz.zeroValue173
  t53 := Tryz.underlying191
  a53 := Tryz.isAgg191
  z53 := Tryz.sizeOf191
  v53 := Tryz.zeroValue191
  t75 := Tryz.underlying130
  a75 := Tryz.isAgg130
  z75 := Tryz.sizeOf130
  v75 := Tryz.zeroValue130
  t76 := Tryz.underlying131
  a76 := Tryz.isAgg131
  z76 := Tryz.sizeOf131
  v76 := Tryz.zeroValue131
  t85 := Tryz.underlying211
  a85 := Tryz.isAgg211
  z85 := Tryz.sizeOf211
  v85 := Tryz.zeroValue211
  t127 := Tryz.underlying176
  a127 := Tryz.isAgg176
  z127 := Tryz.sizeOf176
  v127 := Tryz.zeroValue176
  t143 := Tryz.underlying251
  a143 := Tryz.isAgg251
  z143 := Tryz.sizeOf251
  v143 := Tryz.zeroValue251
  t145 := Tryz.underlying253
  a145 := Tryz.isAgg253
  z145 := Tryz.sizeOf253
  v145 := Tryz.zeroValue253
  t167 := Tryz.underlying210
  a167 := Tryz.isAgg210
  z167 := Tryz.sizeOf210
  v167 := Tryz.zeroValue210
  t168 := Tryz.underlying213
  a168 := Tryz.isAgg213
  z168 := Tryz.sizeOf213
  v168 := Tryz.zeroValue213
  t171 := Tryz.underlying190
  a171 := Tryz.isAgg190
  z171 := Tryz.sizeOf190
  v171 := Tryz.zeroValue190
  t173 := Tryz.underlying194
  a173 := Tryz.isAgg194
  z173 := Tryz.sizeOf194
  v173 := Tryz.zeroValue194
  t175 := Tryz.underlying236
  a175 := Tryz.isAgg236
  z175 := Tryz.sizeOf236
  v175 := Tryz.zeroValue236
  t210 := Tryz.underlying240
  a210 := Tryz.isAgg240
  z210 := Tryz.sizeOf240
  v210 := Tryz.zeroValue240
  t212 := Tryz.underlying228
  a212 := Tryz.isAgg228
  z212 := Tryz.sizeOf228
  v212 := Tryz.zeroValue228
  t213 := Tryz.underlying229
  a213 := Tryz.isAgg229
  z213 := Tryz.sizeOf229
  t232 := Tryz.underlying255
  a232 := Tryz.isAgg255
  z232 := Tryz.sizeOf255
  v232 := Tryz.zeroValue255
  t233 := Tryz.underlying256
  a233 := Tryz.isAgg256
  z233 := Tryz.sizeOf256
  v233 := Tryz.zeroValue256
  g15 := by kernel_rfl
  g16 := by kernel_rfl
  g17 := by kernel_rfl
  g18 := by kernel_rfl
  g19 := by kernel_rfl
  t80 := Tryz.underlying92
  a80 := Tryz.isAgg92
  z80 := Tryz.sizeOf92
  v80 := Tryz.zeroValue92
  i0 := by kernel_rfl
  i2 := by kernel_rfl
  i3 := by kernel_rfl
  i4 := by kernel_rfl
  i5 := by kernel_rfl
  i9 := by kernel_rfl
  i20 := by kernel_rfl
  i21 := by kernel_rfl
  i37 := by kernel_rfl
  i46 := by kernel_rfl
  i51 := by kernel_rfl
  i53 := by kernel_rfl
  i75 := by kernel_rfl
  i76 := by kernel_rfl
  i80 := by kernel_rfl
  i85 := by kernel_rfl
  i127 := by kernel_rfl
  i143 := by kernel_rfl
  i145 := by kernel_rfl
  i167 := by kernel_rfl
  i168 := by kernel_rfl
  i171 := by kernel_rfl
  i173 := by kernel_rfl
  i175 := by kernel_rfl
  i210 := by kernel_rfl
  i212 := by kernel_rfl
  i232 := by kernel_rfl
  i233 := by kernel_rfl
  m15 := by kernel_rfl
  m16 := by kernel_rfl
  m17 := by kernel_rfl
  m18 := by kernel_rfl
  m19 := by kernel_rfl
  c0 := by kernel_rfl
  c2 := by kernel_rfl
  c3 := by kernel_rfl
  c4 := by kernel_rfl
  c5 := by kernel_rfl
  c9 := by kernel_rfl
  c20 := by kernel_rfl
  c21 := by kernel_rfl
  c37 := by kernel_rfl
  c46 := by kernel_rfl
  c51 := by kernel_rfl
  c53 := by kernel_rfl
  c75 := by kernel_rfl
  c76 := by kernel_rfl
  c80 := by kernel_rfl
  c85 := by kernel_rfl
  c127 := by kernel_rfl
  c143 := by kernel_rfl
  c145 := by kernel_rfl
  c167 := by kernel_rfl
  c168 := by kernel_rfl
  c171 := by kernel_rfl
  c173 := by kernel_rfl
  c175 := by kernel_rfl
  c210 := by kernel_rfl
  c212 := by kernel_rfl
  c213 := by kernel_rfl
  c232 := by kernel_rfl
  c233 := by kernel_rfl }
open Go.RowKit in
/-- strconv.Atoi, AT EVERY STRING THAT SPELLS AN int ('Lib.atoiAll .. = .ok v'; of whatever length: leading zeros count): v, AND NO ERROR. The world: as it was, or with the one new row that '[]byte(..)' lays. (LAID: no walk: one application.) -/
theorem Tryz.strconv_Atoi_ok (s : ByteArray) (hmax : s.size ≤ 9223372036854775806) (v : Int) (h : Lib.atoiAll s.data.toList = .ok v) (w : World) :
    Calls Tryz.prog 87 #[.string s] w fun e w' => e = .returned (.tuple #[.int .i64 v, .nilIface]) ∧ (w' = w ∨ ∃ t, w' = Lib.bytesWorld w 5 t) := Any.strconv_Atoi_ok Tryz.laysC172 s hmax v h w
open Go.RowKit in
/-- strconv.Atoi, AT EVERY STRING THAT IS NO DECIMAL NUMERAL ('.syntax'): 0, AND AN ERROR THAT IS NOT nil: a *NumError in a new block N: {Func: "Atoi", Num: s's bytes, Err: what the variable ErrSyntax holds}. Of what was there nothing has turned. (LAID: no walk: one application.) -/
theorem Tryz.strconv_Atoi_syntax (s : ByteArray) (hlim : s.size ≤ 281474976710656) (h : Lib.atoiAll s.data.toList = .«syntax») (ev : Value) (w : World) (hv : w.cell? ⟨10, 0, none⟩ = some ev) (hev : ev = .nilIface ∨ ∃ te pe, ev = .iface te pe) :
    Calls Tryz.prog 87 #[.string s] w fun e w' => ∃ N, e = .returned (.tuple #[.int .i64 (0), .iface 213 (.pointer (some ⟨N, 0, none⟩))]) ∧ w.heap.size ≤ N ∧ w'.heap[N]? = some (.cells #[.string ⟨#[65, 116, 111, 105]⟩, .string s, ev] 240 (0, 0)) ∧ Below w.heap.size w w' := Any.strconv_Atoi_syntax Tryz.laysC172 s hlim h ev w hv hev
open Go.RowKit in
/-- strconv.Atoi, AT EVERY NUMERAL THAT NO int HOLDS ('.range'): THE GREATEST OR THE LEAST int, BY THE SIGN ('Lib.atoiSat'), AND AN ERROR THAT IS NOT nil: a *NumError in a new block N: {Func: "Atoi", Num: s's bytes, Err: what the variable ErrRange holds}. Of what was there nothing has turned. (LAID: no walk: one application.) -/
theorem Tryz.strconv_Atoi_range (s : ByteArray) (hlim : s.size ≤ 281474976710656) (h : Lib.atoiAll s.data.toList = .range) (ev : Value) (w : World) (hv : w.cell? ⟨11, 0, none⟩ = some ev) (hev : ev = .nilIface ∨ ∃ te pe, ev = .iface te pe) :
    Calls Tryz.prog 87 #[.string s] w fun e w' => ∃ N, e = .returned (.tuple #[.int .i64 (Lib.atoiSat s.data.toList), .iface 213 (.pointer (some ⟨N, 0, none⟩))]) ∧ w.heap.size ≤ N ∧ w'.heap[N]? = some (.cells #[.string ⟨#[65, 116, 111, 105]⟩, .string s, ev] 240 (0, 0)) ∧ Below w.heap.size w w' := Any.strconv_Atoi_range Tryz.laysC172 s hlim h ev w hv hev
open Go.RowKit in
open Go.RowKit in
open Go.RowKit Go.Lib in
open Go.RowKit Go.Lib in
open Go.RowKit Go.Lib in
open Go.RowKit Go.Lib in
open Go.RowKit Go.Lib in
open Go.RowKit Go.Lib in
open Go.RowKit Go.Lib in
open Go.RowKit Go.Lib in
open Go.RowKit Go.Lib in
open Go.RowKit Go.Lib in
open Go.RowKit Go.Lib in
open Go.RowKit Go.Lib in
open Go.RowKit Go.Lib in
open Go.RowKit Go.Lib in
open Go.RowKit Go.Lib in
open Go.RowKit Go.Lib in
open Go.RowKit Go.Lib in
open Go.RowKit Go.Lib in
open Go.RowKit Go.Lib in
open Go.RowKit Go.Lib in
open Go.RowKit Go.Lib in
open Go.RowKit Go.Lib in
def Tryz.lays155_ren : Go.Shelf.Ren := ⟨fun | 155 => 49 | 154 => 81 | 138 => 117 | 165 => 72 | 143 => 118 | 166 => 73 | 197 => 119 | 169 => 74 | 195 => 149 | 218 => 150 | 240 => 113 | 241 => 114 | 219 => 151 | 260 => 152 | 276 => 147 | 277 => 148 | 217 => 158 | 225 => 129 | 224 => 128 | 267 => 176 | 266 => 180 | 314 => 188 | n => n, fun | 9 => 9 | 3 => 3 | 4 => 4 | 72 => 127 | 0 => 0 | 76 => 131 | 105 => 179 | 21 => 21 | 5 => 5 | 70 => 125 | 20 => 20 | 37 => 123 | 75 => 130 | 127 => 176 | 164 => 207 | 46 => 185 | 119 => 124 | 139 => 235 | 138 => 234 | 146 => 248 | 51 => 173 | 80 => 92 | n => n, fun | 1 => 6 | 3 => 8 | 4 => 9 | n => n⟩
theorem Tryz.lays155 : Go.Proofs.Lays.n155 Tryz.prog Tryz.lays155_ren := {
  mixed := by kernel_rfl
  f138 := Tryz.func117.trans (congrArg some (by kernel_rfl))
  f143 := Tryz.func118.trans (congrArg some (by kernel_rfl))
  f154 := Tryz.func81.trans (congrArg some (by kernel_rfl))
  f155 := Tryz.func49.trans (congrArg some (by kernel_rfl))
  f165 := Tryz.func72.trans (congrArg some (by kernel_rfl))
  f166 := Tryz.func73.trans (congrArg some (by kernel_rfl))
  f169 := Tryz.func74.trans (congrArg some (by kernel_rfl))
  f195 := Tryz.func149.trans (congrArg some (by kernel_rfl))
  f197 := Tryz.func119.trans (congrArg some (by kernel_rfl))
  f217 := Tryz.func158.trans (congrArg some (by kernel_rfl))
  f218 := Tryz.func150.trans (congrArg some (by kernel_rfl))
  f219 := Tryz.func151.trans (congrArg some (by kernel_rfl))
  f224 := Tryz.func128.trans (congrArg some (by kernel_rfl))
  f225 := Tryz.func129.trans (congrArg some (by kernel_rfl))
  f240 := Tryz.func113.trans (congrArg some (by kernel_rfl))
  f241 := Tryz.func114.trans (congrArg some (by kernel_rfl))
  f260 := Tryz.func152.trans (congrArg some (by kernel_rfl))
  f266 := Tryz.func180.trans (congrArg some (by kernel_rfl))
  f267 := Tryz.func176.trans (congrArg some (by kernel_rfl))
  f276 := Tryz.func147.trans (congrArg some (by kernel_rfl))
  f277 := Tryz.func148.trans (congrArg some (by kernel_rfl))
  f314 := Tryz.func188.trans (congrArg some (by kernel_rfl))
  t0 := Tryz.underlying0
  a0 := Tryz.isAgg0
  z0 := Tryz.sizeOf0
  v0 := Tryz.zeroValue0
  t3 := Tryz.underlying3
  a3 := Tryz.isAgg3
  z3 := Tryz.sizeOf3
  v3 := Tryz.zeroValue3
  t4 := Tryz.underlying4
  a4 := Tryz.isAgg4
  z4 := Tryz.sizeOf4
  v4 := Tryz.zeroValue4
  t5 := Tryz.underlying5
  a5 := Tryz.isAgg5
  z5 := Tryz.sizeOf5
  v5 := Tryz.zeroValue5
  t9 := Tryz.underlying9
  a9 := Tryz.isAgg9
  z9 := Tryz.sizeOf9
  v9 := Tryz.zeroValue9
  t20 := Tryz.underlying20
  a20 := Tryz.isAgg20
  z20 := Tryz.sizeOf20
  v20 := Tryz.zeroValue20
  t21 := Tryz.underlying21
  a21 := Tryz.isAgg21
  z21 := Tryz.sizeOf21
  v21 := Tryz.zeroValue21
  t37 := Tryz.underlying123
  a37 := Tryz.isAgg123
  z37 := Tryz.sizeOf123
  v37 := Tryz.zeroValue123
  t46 := Tryz.underlying185
  a46 := Tryz.isAgg185
  z46 := Tryz.sizeOf185
  v46 := Tryz.zeroValue185
  t51 := Tryz.underlying173
  a51 := Tryz.isAgg173
  z51 := Tryz.sizeOf173
  v51 := Tryz.zeroValue173
  t70 := Tryz.underlying125
  a70 := Tryz.isAgg125
  z70 := Tryz.sizeOf125
  v70 := Tryz.zeroValue125
  t72 := Tryz.underlying127
  a72 := Tryz.isAgg127
  z72 := Tryz.sizeOf127
  v72 := Tryz.zeroValue127
  t75 := Tryz.underlying130
  a75 := Tryz.isAgg130
  z75 := Tryz.sizeOf130
  v75 := Tryz.zeroValue130
  t76 := Tryz.underlying131
  a76 := Tryz.isAgg131
  z76 := Tryz.sizeOf131
  v76 := Tryz.zeroValue131
  t105 := Tryz.underlying179
  a105 := Tryz.isAgg179
  z105 := Tryz.sizeOf179
  v105 := Tryz.zeroValue179
  t119 := Tryz.underlying124
  a119 := Tryz.isAgg124
  z119 := Tryz.sizeOf124
  t127 := Tryz.underlying176
  a127 := Tryz.isAgg176
  z127 := Tryz.sizeOf176
  v127 := Tryz.zeroValue176
  t138 := Tryz.underlying234
  a138 := Tryz.isAgg234
  z138 := Tryz.sizeOf234
  v138 := Tryz.zeroValue234
  t139 := Tryz.underlying235
  a139 := Tryz.isAgg235
  z139 := Tryz.sizeOf235
  v139 := Tryz.zeroValue235
  t146 := Tryz.underlying248
  a146 := Tryz.isAgg248
  z146 := Tryz.sizeOf248
  v146 := Tryz.zeroValue248
  t164 := Tryz.underlying207
  a164 := Tryz.isAgg207
  z164 := Tryz.sizeOf207
  v164 := Tryz.zeroValue207
  g1 := by kernel_rfl
  g3 := by kernel_rfl
  g4 := by kernel_rfl }
theorem Tryz.Builder_Extra_155 : Builder.Extra Tryz.prog Tryz.lays155_ren := {
  sizeBuilder := by kernel_rfl
  liesBuilder := by kernel_rfl
  t5 := Tryz.underlying5
  a5 := Tryz.isAgg5
  z5 := Tryz.sizeOf5
  v5 := Tryz.zeroValue5
  infoByte := by kernel_rfl
  cellsByte := by kernel_rfl
  sizeByte := by kernel_rfl
  neB5 := by decide }
open Go.RowKit Go.Lib in
/-- strings.ReplaceAll: "ReplaceAll returns a copy of the string s with all non-overlapping instances of old replaced by new.": AT AN old THAT IS NOT EMPTY: 'Lib.replaceAll s old new'. (LAID: no walk: one application.) -/
theorem Tryz.strings_ReplaceAll (s old new : ByteArray) (m : Int) (w : World) (hs : s.size < 4294967281) (hm : w.cell? ⟨6, 0, none⟩ = some (.int .i64 m)) (h1 : 1 ≤ old.size) (hlen : s.size + Lib.countB s old * new.size ≤ 140737488355328) :
    Calls Tryz.prog 49 #[.string s, .string old, .string new] w fun e w' =>
      e = .returned (.string ⟨(Lib.replaceAll s.data.toList old.data.toList new.data.toList).toArray⟩) ∧ Below w.heap.size w w' := Any.strings_ReplaceAll Tryz.lays155 Tryz.Builder_Extra_155 s old new m w hs hm h1 hlen
open Go.RowKit Go.Lib in
open Go.RowKit Go.Lib in
def Tryz.laysM155_ren : Go.Shelf.Ren := ⟨fun | 155 => 49 | 154 => 81 | 138 => 117 | 165 => 72 | 143 => 118 | 166 => 73 | 197 => 119 | 169 => 74 | 195 => 149 | 218 => 150 | 240 => 113 | 241 => 114 | 219 => 151 | 260 => 152 | 276 => 147 | 277 => 148 | 217 => 158 | 225 => 129 | 224 => 128 | 267 => 176 | 266 => 180 | 314 => 188 | n => n, fun | 9 => 9 | 3 => 3 | 4 => 4 | 72 => 127 | 0 => 0 | 76 => 131 | 105 => 179 | 21 => 21 | 5 => 5 | 70 => 125 | 20 => 20 | 37 => 123 | 75 => 130 | 127 => 176 | 164 => 207 | 46 => 185 | 119 => 124 | 139 => 235 | 138 => 234 | 146 => 248 | 51 => 173 | 80 => 92 | n => n, fun | 1 => 6 | 3 => 8 | 4 => 9 | n => n⟩
theorem Tryz.laysM155 : Go.Proofs.LaysM.n155 Tryz.prog Tryz.laysM155_ren := {
  mixed := by kernel_rfl
  f138 := Tryz.func117.trans (congrArg some (by kernel_rfl))
  f143 := Tryz.func118.trans (congrArg some (by kernel_rfl))
  f154 := Tryz.func81.trans (congrArg some (by kernel_rfl))
  f155 := Tryz.func49.trans (congrArg some (by kernel_rfl))
  f165 := Tryz.func72.trans (congrArg some (by kernel_rfl))
  f166 := Tryz.func73.trans (congrArg some (by kernel_rfl))
  f169 := Tryz.func74.trans (congrArg some (by kernel_rfl))
  f195 := Tryz.func149.trans (congrArg some (by kernel_rfl))
  f197 := Tryz.func119.trans (congrArg some (by kernel_rfl))
  f217 := Tryz.func158.trans (congrArg some (by kernel_rfl))
  f218 := Tryz.func150.trans (congrArg some (by kernel_rfl))
  f219 := Tryz.func151.trans (congrArg some (by kernel_rfl))
  f224 := Tryz.func128.trans (congrArg some (by kernel_rfl))
  f225 := Tryz.func129.trans (congrArg some (by kernel_rfl))
  f240 := Tryz.func113.trans (congrArg some (by kernel_rfl))
  f241 := Tryz.func114.trans (congrArg some (by kernel_rfl))
  f260 := Tryz.func152.trans (congrArg some (by kernel_rfl))
  f266 := Tryz.func180.trans (congrArg some (by kernel_rfl))
  f267 := Tryz.func176.trans (congrArg some (by kernel_rfl))
  f276 := Tryz.func147.trans (congrArg some (by kernel_rfl))
  f277 := Tryz.func148.trans (congrArg some (by kernel_rfl))
  f314 := Tryz.func188.trans (congrArg some (by kernel_rfl))
  t0 := Tryz.underlying0
  a0 := Tryz.isAgg0
  z0 := Tryz.sizeOf0
  v0 := Tryz.zeroValue0
  t3 := Tryz.underlying3
  a3 := Tryz.isAgg3
  z3 := Tryz.sizeOf3
  v3 := Tryz.zeroValue3
  t4 := Tryz.underlying4
  a4 := Tryz.isAgg4
  z4 := Tryz.sizeOf4
  v4 := Tryz.zeroValue4
  t5 := Tryz.underlying5
  a5 := Tryz.isAgg5
  z5 := Tryz.sizeOf5
  v5 := Tryz.zeroValue5
  t9 := Tryz.underlying9
  a9 := Tryz.isAgg9
  z9 := Tryz.sizeOf9
  v9 := Tryz.zeroValue9
  t20 := Tryz.underlying20
  a20 := Tryz.isAgg20
  z20 := Tryz.sizeOf20
  v20 := Tryz.zeroValue20
  t21 := Tryz.underlying21
  a21 := Tryz.isAgg21
  z21 := Tryz.sizeOf21
  v21 := Tryz.zeroValue21
  t37 := Tryz.underlying123
  a37 := Tryz.isAgg123
  z37 := Tryz.sizeOf123
  v37 := Tryz.zeroValue123
  t46 := Tryz.underlying185
  a46 := Tryz.isAgg185
  z46 := Tryz.sizeOf185
  v46 := Tryz.zeroValue185
  t51 := Tryz.underlying173
  a51 := Tryz.isAgg173
  z51 := Tryz.sizeOf173
  v51 := Tryz.zeroValue173
  t70 := Tryz.underlying125
  a70 := Tryz.isAgg125
  z70 := Tryz.sizeOf125
  v70 := Tryz.zeroValue125
  t72 := Tryz.underlying127
  a72 := Tryz.isAgg127
  z72 := Tryz.sizeOf127
  v72 := Tryz.zeroValue127
  t75 := Tryz.underlying130
  a75 := Tryz.isAgg130
  z75 := Tryz.sizeOf130
  v75 := Tryz.zeroValue130
  t76 := Tryz.underlying131
  a76 := Tryz.isAgg131
  z76 := Tryz.sizeOf131
  v76 := Tryz.zeroValue131
  t105 := Tryz.underlying179
  a105 := Tryz.isAgg179
  z105 := Tryz.sizeOf179
  v105 := Tryz.zeroValue179
  t119 := Tryz.underlying124
  a119 := Tryz.isAgg124
  z119 := Tryz.sizeOf124
  t127 := Tryz.underlying176
  a127 := Tryz.isAgg176
  z127 := Tryz.sizeOf176
  v127 := Tryz.zeroValue176
  t138 := Tryz.underlying234
  a138 := Tryz.isAgg234
  z138 := Tryz.sizeOf234
  v138 := Tryz.zeroValue234
  t139 := Tryz.underlying235
  a139 := Tryz.isAgg235
  z139 := Tryz.sizeOf235
  v139 := Tryz.zeroValue235
  t146 := Tryz.underlying248
  a146 := Tryz.isAgg248
  z146 := Tryz.sizeOf248
  v146 := Tryz.zeroValue248
  t164 := Tryz.underlying207
  a164 := Tryz.isAgg207
  z164 := Tryz.sizeOf207
  v164 := Tryz.zeroValue207
  g1 := by kernel_rfl
  g3 := by kernel_rfl
  g4 := by kernel_rfl
  t80 := Tryz.underlying92
  a80 := Tryz.isAgg92
  z80 := Tryz.sizeOf92
  v80 := Tryz.zeroValue92
  i0 := by kernel_rfl
  i3 := by kernel_rfl
  i4 := by kernel_rfl
  i5 := by kernel_rfl
  i9 := by kernel_rfl
  i20 := by kernel_rfl
  i21 := by kernel_rfl
  i37 := by kernel_rfl
  i46 := by kernel_rfl
  i51 := by kernel_rfl
  i70 := by kernel_rfl
  i72 := by kernel_rfl
  i75 := by kernel_rfl
  i76 := by kernel_rfl
  i80 := by kernel_rfl
  i105 := by kernel_rfl
  i127 := by kernel_rfl
  i138 := by kernel_rfl
  i139 := by kernel_rfl
  i146 := by kernel_rfl
  i164 := by kernel_rfl
  m1 := by kernel_rfl
  s1_3 := fun w h => Go.Proofs.cell_of_shapedOpen_int (zero := #[.int .i64 0]) (t := 3) h (of_decide_eq_true (by kernel_rfl)) (by kernel_rfl) rfl (by kernel_rfl) (by kernel_rfl) Tryz.underlying3
  m3 := by kernel_rfl
  m4 := by kernel_rfl }
open Go.RowKit Go.Lib in
open Go.RowKit Go.Lib in
open Go.RowKit Go.Lib in
open Go.RowKit Go.Lib in
open Go.RowKit Go.Lib in
open Go.RowKit Go.Lib in
open Go.RowKit Go.Lib in
open Go.RowKit Go.Lib in
open Go.RowKit Go.Lib in
open Go.RowKit Go.Lib in
open Go.RowKit Go.Lib in
open Go.RowKit Go.Lib in
open Go.RowKit Go.Lib in
open Go.RowKit Go.Lib in
open Go.RowKit Go.Lib in
open Go.RowKit Go.Lib in
open Go.RowKit Go.Lib in
open Go.RowKit Go.Lib in
open Go.RowKit Go.Lib in
open Go.RowKit Go.Lib in
open Go.RowKit Go.Lib in
def Tryz.lays229_ren : Go.Shelf.Ren := ⟨fun | 229 => 50 | n => n, fun | 9 => 9 | 40 => 91 | 31 => 57 | 152 => 138 | 3 => 3 | 0 => 0 | 4 => 4 | 21 => 21 | 154 => 140 | n => n, fun | n => n⟩
theorem Tryz.lays229 : Go.Proofs.Lays.n229 Tryz.prog Tryz.lays229_ren := {
  mixed := by kernel_rfl
  f229 := Tryz.func50.trans (congrArg some (by kernel_rfl))
  t0 := Tryz.underlying0
  a0 := Tryz.isAgg0
  z0 := Tryz.sizeOf0
  v0 := Tryz.zeroValue0
  t3 := Tryz.underlying3
  a3 := Tryz.isAgg3
  z3 := Tryz.sizeOf3
  v3 := Tryz.zeroValue3
  t4 := Tryz.underlying4
  a4 := Tryz.isAgg4
  z4 := Tryz.sizeOf4
  v4 := Tryz.zeroValue4
  t9 := Tryz.underlying9
  a9 := Tryz.isAgg9
  z9 := Tryz.sizeOf9
  v9 := Tryz.zeroValue9
  t21 := Tryz.underlying21
  a21 := Tryz.isAgg21
  z21 := Tryz.sizeOf21
  v21 := Tryz.zeroValue21
  t31 := Tryz.underlying57
  a31 := Tryz.isAgg57
  z31 := Tryz.sizeOf57
  v31 := Tryz.zeroValue57
  t40 := Tryz.underlying91
  a40 := Tryz.isAgg91
  z40 := Tryz.sizeOf91
  v40 := Tryz.zeroValue91
  t152 := Tryz.underlying138
  a152 := Tryz.isAgg138
  z152 := Tryz.sizeOf138
  v152 := Tryz.zeroValue138
  t154 := Tryz.underlying140
  a154 := Tryz.isAgg140
  z154 := Tryz.sizeOf140
  v154 := Tryz.zeroValue140 }
open Go.RowKit Go.Lib in
open Go.RowKit Go.Lib in
open Go.RowKit Go.Lib in
open Go.RowKit Go.Lib in
open Go.RowKit Go.Lib in
open Go.RowKit Go.Lib in
theorem Tryz.strings_FieldsFunc_grows (g : Nat) (lb : Array Value) (eg : ∀ args w, (callFunc g args).run Tryz.prog w = .ok (.enter g args) w) (p : Nat → Bool) (s : ByteArray) (w : World) (hs : s.size ≤ 4294967296) (hp : PredGrows Tryz.prog g lb p w) :
    Calls Tryz.prog 50 #[.string s, .func (.func g) #[] lb] w fun e w' => ∃ A, e = .returned (.slice (some ⟨A, 0, none⟩) (Lib.goFieldsP p s).length (Lib.goFieldsP p s).length) ∧ w.heap.size ≤ A ∧
      w'.ownsRow w.heap.size 9 1 (.slice (some ⟨A, 0, none⟩) (Lib.goFieldsP p s).length (Lib.goFieldsP p s).length) (Lib.goFieldsP p s).length ((Lib.goFieldsP p s).map Value.string) ∧ Below w.heap.size w w' := Any.strings_FieldsFunc_grows Tryz.lays229 g lb eg p s w hs hp (by kernel_rfl) (by kernel_rfl)
end Go.Proofs

/-
  What the call of (*reader).number does at a word.
-/
namespace Go.Proofs.YtnddkmccagiclaaGreatDoor
open Go.RowKit
def NumPost (R : Nat) (ws : List ByteArray) (b : Bool) (d : ByteArray) (w : World) (e : Ending) (w' : World) : Prop :=
  ∃ n : Int, e = .returned (.int .i64 n) ∧ ((numOf d = some n ∧ RS R ws b w') ∨ (numOf d = none ∧ RS R [] true w')) ∧ Kept R none w w'
theorem Gl.pow {w : World} (h : Gl w) : Lib.TabIs Tryz.prog w "internal/strconv.uint64pow10" .u64 Lib.pow10Tab := by
  obtain ⟨t, fr, h⟩ := h.pw
  have hg : Tryz.prog.globalNamed "internal/strconv.uint64pow10" = some 7 := by kernel_rfl
  simp only [Lib.TabIs, World.var?, hg, Option.bind_some, h]
set_option maxRecDepth 20000 in
set_option maxHeartbeats 1000000 in
theorem number_bad (R : Nat) (ws : List ByteArray) (b : Bool) (d : ByteArray) (w : World) (h : RS R ws b w) (hn : Hid (numOf d = none))
    (HA : Hid (Calls Tryz.prog 87 #[.string d] w fun e w' => ∃ (n : Int) (N : Nat), e = .returned (.tuple #[.int .i64 n, .iface 213 (.pointer (some ⟨N, 0, none⟩))]) ∧ Below w.heap.size w w')) :
    Calls Tryz.prog 56 #[.pointer (some ⟨R, 0, none⟩), .string d] w (NumPost R ws b d w) := by
  go_enter Tryz.func56, Tryz.ntmps56
  go_wp2_with fail
  refine HA.out.mono ?_
  rintro e w1 ⟨n, N, rfl, hb⟩
  have HF : Hid (Calls Tryz.prog 82 #[.pointer (some ⟨R, 0, none⟩)] w1 fun e w' => e = .returned (.tuple #[]) ∧ RS R [] true w' ∧ Kept R none w1 w') := fail_any R ws b w1 (h.below hb)
  have HB : Hid (Kept R none w w1) := Kept.of_below hb
  clear hb HA h
  go_wp2_with fail
  refine HF.out.mono ?_
  rintro e w2 ⟨rfl, hr, hk⟩
  have HR : Hid (RS R [] true w2 ∧ Kept R none w w2) := ⟨hr, HB.out.trans hk⟩
  clear hr hk HF HB
  go_wp2_with fail
  go_ret
  exact ⟨0, rfl, .inr ⟨hn.out, HR.out.1⟩, HR.out.2⟩
set_option maxRecDepth 20000 in
set_option maxHeartbeats 1000000 in
theorem number_ok (R : Nat) (ws : List ByteArray) (b : Bool) (d : ByteArray) (v : Int) (w : World) (h : RS R ws b w)
    (HA : Hid (Calls Tryz.prog 87 #[.string d] w fun e w' => e = .returned (.tuple #[.int .i64 v, .nilIface]) ∧ Below w.heap.size w w'))
    (HI : Hid (∀ W, Below w.heap.size w W → Calls Tryz.prog 36 #[.int .i64 v] W fun e w' => e = .returned (.string ⟨(Lib.itoa v).toArray⟩) ∧ Below W.heap.size W w'))
    (HO : Hid (numOf d = if (⟨(Lib.itoa v).toArray⟩ : ByteArray) = d then some v else none)) :
    Calls Tryz.prog 56 #[.pointer (some ⟨R, 0, none⟩), .string d] w (NumPost R ws b d w) := by
  obtain ⟨s, hs⟩ : ∃ s : ByteArray, s = ⟨(Lib.itoa v).toArray⟩ := ⟨_, rfl⟩
  rw [← hs] at HI HO
  clear hs
  by_cases hd : s = d
  · have hn : Hid (numOf d = some v) := by show _ = _; rw [HO.out, if_pos hd]
    subst hd
    clear HO
    go_enter Tryz.func56, Tryz.ntmps56
    go_wp2_with fail
    refine HA.out.mono ?_
    rintro e w1 ⟨rfl, hb⟩
    have HB : Hid (Below w.heap.size w w1) := hb
    clear hb HA
    go_wp2_with fail
    refine (HI.out _ HB.out).mono ?_
    rintro e w2 ⟨rfl, hb⟩
    have HB2 : Hid (Below w.heap.size w w2) := HB.out.trans (hb.mono HB.out.size)
    have HR : Hid (RS R ws b w2) := h.below HB2.out
    clear hb HB h HI
    go_wp2_with fail
    go_ret
    exact ⟨v, rfl, .inl ⟨hn.out, HR.out⟩, Kept.of_below HB2.out⟩
  · have hn : Hid (numOf d = none) := by show _ = _; rw [HO.out, if_neg hd]
    have hb1 : (s.toList == d.toList) = false := (Lib.bytes_beq_false_iff _ _).2 hd
    have hb2 : (!s.toList == d.toList) = true := by rw [hb1]; rfl
    clear HO hd
    go_enter Tryz.func56, Tryz.ntmps56
    go_wp2_with fail
    refine HA.out.mono ?_
    rintro e w1 ⟨rfl, hb⟩
    have HB : Hid (Below w.heap.size w w1) := hb
    clear hb HA
    go_wp2_with fail
    refine (HI.out _ HB.out).mono ?_
    rintro e w2 ⟨rfl, hb⟩
    have HB2 : Hid (Below w.heap.size w w2) := HB.out.trans (hb.mono HB.out.size)
    have HF : Hid (Calls Tryz.prog 82 #[.pointer (some ⟨R, 0, none⟩)] w2 fun e w' => e = .returned (.tuple #[]) ∧ RS R [] true w' ∧ Kept R none w2 w') := fail_any R ws b w2 (h.below HB2.out)
    clear hb HB h HI
    go_wp2_with fail
    refine HF.out.mono ?_
    rintro e w3 ⟨rfl, hr, hk⟩
    have HR : Hid (RS R [] true w3 ∧ Kept R none w w3) := ⟨hr, (Kept.of_below HB2.out).trans hk⟩
    clear hr hk HF HB2
    go_wp2_with fail
    go_ret
    exact ⟨0, rfl, .inr ⟨hn.out, HR.out.1⟩, HR.out.2⟩
theorem below_grew (w : World) (k : Nat) (os : Array Obj) : Below w.heap.size w (Sort.grow (w.drewN k) os) := by
  refine ⟨rfl, rfl, rfl, ?_, fun i hi => ?_⟩
  · show w.heap.size ≤ (w.heap ++ os).size
    simp
  · show (w.heap ++ os)[i]? = w.heap[i]?
    exact Array.getElem?_append_left hi
/-- (*reader).number. -/
theorem number_any (R : Nat) (ws : List ByteArray) (b : Bool) (d : ByteArray) (hd : d.size ≤ 1000000) (w : World) (hg : Gl w) (h : RS R ws b w) :
    Calls Tryz.prog 56 #[.pointer (some ⟨R, 0, none⟩), .string d] w (NumPost R ws b d w) := by
  cases ha : Lib.atoiAll d.data.toList with
  | ok v =>
    have hv := Lib.atoiAll_bounds ha
    refine number_ok R ws b d v w h ?_ (fun W hb => ?_) (by show _ = _; simp only [numOf, ha])
    · refine (Tryz.strconv_Atoi_ok d (by omega) v ha w).mono ?_
      rintro e w' ⟨rfl, rfl | ⟨t, rfl⟩⟩
      · exact ⟨rfl, Below.refl _ _⟩
      · exact ⟨rfl, Lib.bytesWorld_below _ _ _⟩
    · refine (Tryz.strconv_Itoa v hv.1 hv.2 W (hg.below hb).pow).mono ?_
      rintro e w' ⟨rfl, k, os, rfl⟩
      exact ⟨rfl, below_grew _ _ _⟩
  | «syntax» =>
    obtain ⟨te, pe, hs⟩ := hg.es
    have hc := hs.cell 0
    refine number_bad R ws b d w h (by show _ = _; simp only [numOf, ha]) ?_
    refine (Tryz.strconv_Atoi_syntax d (by omega) ha (.iface te pe) w (by simpa using hc) (.inr ⟨te, pe, rfl⟩)).mono ?_
    rintro e w' ⟨N, rfl, _, _, hb⟩
    exact ⟨0, N, rfl, hb⟩
  | range =>
    obtain ⟨te, pe, hs⟩ := hg.er
    have hc := hs.cell 0
    refine number_bad R ws b d w h (by show _ = _; simp only [numOf, ha]) ?_
    refine (Tryz.strconv_Atoi_range d (by omega) ha (.iface te pe) w (by simpa using hc) (.inr ⟨te, pe, rfl⟩)).mono ?_
    rintro e w' ⟨N, rfl, _, _, hb⟩
    exact ⟨_, N, rfl, hb⟩
end Go.Proofs.YtnddkmccagiclaaGreatDoor

/-
  How a term's text is read part by part: the plain mathematics, and the call of (*reader).readTerm at a word that opens no brackets.
-/
namespace Go.Proofs.YtnddkmccagiclaaGreatDoor
open Go.RowKit
theorem readN_len (f : List ByteArray → Option (Tm × List ByteArray)) (hf : ∀ ws p, f ws = some p → p.2.length ≤ ws.length) : ∀ (m : Nat) (ws : List ByteArray) (q : List Tm × List ByteArray), readN f m ws = some q → q.2.length ≤ ws.length
  | 0, ws, q, h => by simp [readN] at h; rw [← h]; exact Nat.le_refl _
  | m + 1, ws, q, h => by
    simp only [readN, Option.bind_eq_some_iff, Option.map_eq_some_iff] at h
    obtain ⟨p, hp, q', hq, rfl⟩ := h
    have := hf ws p hp
    have := readN_len f hf m _ _ hq
    simp only
    omega
/-- What stands in the brackets. -/
def inTm (n : Nat) : List ByteArray → Option (Tm × List ByteArray)
  | [] => none
  | y :: r1 => (kindAt y).bind fun k => (readT n k r1).bind fun p => (readN (readTm n) (partsOf (k : Int)) p.2).bind fun q => (behind clB q.2).map fun r4 => (⟨(k : Int), 0, p.1, anyY, q.1⟩, r4)
theorem readTm_open (n : Nat) (r : List ByteArray) : readTm (n + 1) (opB :: r) = inTm n r := by
  cases r <;> simp [readTm, inTm]
theorem readTm_word (n : Nat) (x : ByteArray) (r : List ByteArray) (hx : x ≠ opB) : readTm (n + 1) (x :: r) = readWord x r := by
  cases r <;> simp [readTm, hx]
theorem readT_len {n k : Nat} {ws : List ByteArray} {p : Ty × List ByteArray} (h : readT n k ws = some p) : p.2.length ≤ ws.length := by
  unfold readT at h
  split at h
  · exact Nat.le_of_lt (readTy_len n _ _ h)
  · cases h; exact Nat.le_refl _
theorem readWord_len {x : ByteArray} {r : List ByteArray} {p : Tm × List ByteArray} (h : readWord x r = some p) : p.2 = r := by
  unfold readWord at h
  split at h
  · cases h; rfl
  · split at h
    · obtain ⟨_, _, rfl⟩ := Option.map_eq_some_iff.1 h; rfl
    · obtain ⟨_, _, rfl⟩ := Option.map_eq_some_iff.1 h; rfl
theorem readTm_len : ∀ (n : Nat) (ws : List ByteArray) (p : Tm × List ByteArray), readTm n ws = some p → p.2.length < ws.length
  | 0, _, _, h => by simp [readTm] at h
  | n + 1, [], _, h => by simp [readTm] at h
  | n + 1, x :: r, p, h => by
    by_cases hx : x = opB
    · subst hx
      rw [readTm_open] at h
      cases r with
      | nil => cases h
      | cons y r1 =>
        simp only [inTm, Option.bind_eq_some_iff, Option.map_eq_some_iff] at h
        obtain ⟨k, _, p1, h1, q, h2, r4, h3, rfl⟩ := h
        have a1 := readT_len h1
        have a2 := readN_len (readTm n) (fun ws p hp => Nat.le_of_lt (readTm_len n ws p hp)) _ _ _ h2
        have a3 := behind_len h3
        simp only [List.length_cons]; omega
    · rw [readTm_word n x r hx] at h
      rw [readWord_len h]
      simp
theorem readTm_nil (n : Nat) : readTm n [] = none := by cases n <;> rfl
/-- So many of the parts have been read. -/
def InvN (f : List ByteArray → Option (Tm × List ByteArray)) (m : Nat) (ws0 : List ByteArray) (b : Bool) (j : Nat) (ws' : List ByteArray) (b' : Bool) (tms : List Tm) : Prop :=
  (b' = b ∧ readN f m ws0 = (readN f (m - j) ws').map (fun q => (tms ++ q.1, q.2))) ∨ (ws' = [] ∧ b' = true ∧ readN f m ws0 = none)
theorem InvN.start (f : List ByteArray → Option (Tm × List ByteArray)) (m : Nat) (ws : List ByteArray) (b : Bool) : InvN f m ws b 0 ws b [] := by
  refine .inl ⟨rfl, ?_⟩
  simp
theorem InvN.step {f : List ByteArray → Option (Tm × List ByteArray)} {m j : Nat} {ws0 ws' ws'' : List ByteArray} {b b' b'' : Bool} {tms : List Tm} {x : Tm} (hf : f [] = none) (hj : j < m) (h : InvN f m ws0 b j ws' b' tms)
    (hs : StepR ((f ws').map (·.2)) b' ws'' b'') (he : ∀ p, f ws' = some p → x = p.1) : InvN f m ws0 b (j + 1) ws'' b'' (tms ++ [x]) := by
  rcases h with ⟨rfl, h⟩ | ⟨rfl, rfl, h⟩
  · have e : m - j = (m - (j + 1)) + 1 := by omega
    rw [e] at h
    rcases hs with ⟨ho, rfl⟩ | ⟨ho, hn, hb⟩
    · obtain ⟨p, hp, rfl⟩ := Option.map_eq_some_iff.1 ho
      refine .inl ⟨rfl, ?_⟩
      rw [h, readN, hp, he p hp]
      simp only [Option.bind_some, Option.map_map]
      congr 1
      funext q
      simp
    · have hp : f ws' = none := Option.map_eq_none_iff.1 ho
      refine .inr ⟨hn, hb, ?_⟩
      rw [h, readN, hp]
      rfl
  · rw [hf] at hs
    rcases hs with ⟨ho, _⟩ | ⟨_, hn, hb⟩
    · cases ho
    · exact .inr ⟨hn, hb, h⟩
/-- The steps make the whole. -/
theorem inTm_steps {n k : Nat} {y : ByteArray} {r1 ws1 ws2 ws3 : List ByteArray} {b b1 b2 b3 : Bool} {t : Ty} {tms : List Tm} (hk : kindAt y = some k)
    (h1 : StepR ((readT n k r1).map (·.2)) b ws1 b1) (e1 : ∀ p, readT n k r1 = some p → t = p.1)
    (h2 : InvN (readTm n) (partsOf (k : Int)) ws1 b1 (partsOf (k : Int)) ws2 b2 tms) (h3 : StepR (behind clB ws2) b2 ws3 b3) (hdead : readT n k r1 = none → 0 < partsOf (k : Int)) :
    StepR ((inTm n (y :: r1)).map (·.2)) b ws3 b3 ∧ ∀ p, inTm n (y :: r1) = some p → (⟨(k : Int), 0, t, anyY, tms⟩ : Tm) = p.1 := by
  have dead : ∀ (o : Option (Tm × List ByteArray)), o = none → ws3 = [] → b3 = true → StepR (o.map (·.2)) b ws3 b3 ∧ ∀ p, o = some p → (⟨(k : Int), 0, t, anyY, tms⟩ : Tm) = p.1 := by
    rintro o rfl rfl rfl
    exact ⟨.inr ⟨rfl, rfl, rfl⟩, fun p h => by cases h⟩
  have nil3 : ws2 = [] → b2 = true → ws3 = [] ∧ b3 = true := by
    rintro rfl rfl
    rcases h3 with ⟨h, _⟩ | ⟨_, h, h'⟩
    · cases h
    · exact ⟨h, h'⟩
  have e : inTm n (y :: r1) = (readT n k r1).bind fun p => (readN (readTm n) (partsOf (k : Int)) p.2).bind fun q => (behind clB q.2).map fun r4 => (⟨(k : Int), 0, p.1, anyY, q.1⟩, r4) := by
    simp only [inTm, hk, Option.bind_some]
  rw [e]
  rcases h1 with ⟨ho1, rfl⟩ | ⟨ho1, hn1, hb1⟩
  · obtain ⟨p, hp, hp2⟩ := Option.map_eq_some_iff.1 ho1
    rw [hp, Option.bind_some, hp2]
    rcases h2 with ⟨rfl, h2⟩ | ⟨hw2, hb2, h2⟩
    · rw [Nat.sub_self, readN] at h2
      simp only [Option.map_some, List.append_nil] at h2
      rw [h2, Option.bind_some]
      rcases h3 with ⟨ho3, rfl⟩ | ⟨ho3, hn3, hb3⟩
      · rw [ho3]
        refine ⟨.inl ⟨rfl, rfl⟩, fun x hx => ?_⟩
        cases hx
        rw [e1 p hp]
      · rw [ho3]
        exact dead _ rfl hn3 hb3
    · rw [h2]
      obtain ⟨a, c⟩ := nil3 hw2 hb2
      exact dead _ rfl a c
  · have hp : readT n k r1 = none := Option.map_eq_none_iff.1 ho1
    have hm := hdead hp
    rw [hp]
    subst hn1 hb1
    have hno : readN (readTm n) (partsOf (k : Int)) [] = none := by
      obtain ⟨m, hm'⟩ : ∃ m, partsOf (k : Int) = m + 1 := ⟨partsOf (k : Int) - 1, by omega⟩
      rw [hm', readN, readTm_nil]
      rfl
    rcases h2 with ⟨rfl, h2⟩ | ⟨hw2, hb2, _⟩
    · rw [hno, Nat.sub_self, readN] at h2
      cases h2
    · obtain ⟨a, c⟩ := nil3 hw2 hb2
      exact dead _ rfl a c
/-- What the call leaves: a term's tree, and the state. -/
def TmPost (R : Nat) (b : Bool) (o : Option (Tm × List ByteArray)) (w : World) (e : Ending) (w' : World) : Prop :=
  ∃ x : TT, e = .returned (.agg #[.int .i64 x.k, .int .i64 x.n, .int .i64 x.t.k, .slice x.t.a x.t.l.length x.t.c, .int .i64 x.f.k, .slice x.f.a x.f.l.length x.f.c, .slice x.a x.l.length x.c]) ∧ x.In w' ∧ x.Bl (w.heap.size ≤ ·) ∧ Kept R none w w' ∧ After R b (o.map (·.2)) w' ∧ ∀ p, o = some p → x.tm = p.1
theorem box7_alloc (w : World) : Box7 (w.alloc (.cells #[.int .i64 0, .int .i64 0, .int .i64 0, .slice none 0 0, .int .i64 0, .slice none 0 0, .slice none 0 0] 27)) w.heap.size (tleaf 0 0) := by
  refine ⟨⟨?_, ?_, ?_, ?_, ?_, ?_, ?_⟩, fun i hi => ?_⟩
  · simp [go_sem, tleaf]
  · simp [go_sem, tleaf]
  · simp [go_sem, tleaf]
  · simp [go_sem, tleaf]
  · simp [go_sem, tleaf]
  · simp [go_sem, tleaf]
  · simp [go_sem, tleaf]
  · simp [go_sem]
/-- Each cell, right behind its store. -/
theorem put7_gets {w : World} {k : Nat} {x y : TT} (hbx : Box7 w k y) : (w.setCell ⟨k, 0, none⟩ (.int .i64 x.k)).cell? ⟨k, 0, none⟩ = some (.int .i64 x.k) ∧ ((w.setCell ⟨k, 0, none⟩ (.int .i64 x.k)).setCell ⟨k, 1, none⟩ (.int .i64 x.n)).cell? ⟨k, 1, none⟩ = some (.int .i64 x.n) ∧ (((w.setCell ⟨k, 0, none⟩ (.int .i64 x.k)).setCell ⟨k, 1, none⟩ (.int .i64 x.n)).setCell ⟨k, 2, none⟩ (.int .i64 x.t.k)).cell? ⟨k, 2, none⟩ = some (.int .i64 x.t.k) ∧ ((((w.setCell ⟨k, 0, none⟩ (.int .i64 x.k)).setCell ⟨k, 1, none⟩ (.int .i64 x.n)).setCell ⟨k, 2, none⟩ (.int .i64 x.t.k)).setCell ⟨k, 3, none⟩ (.slice x.t.a x.t.l.length x.t.c)).cell? ⟨k, 3, none⟩ = some (.slice x.t.a x.t.l.length x.t.c) ∧ (((((w.setCell ⟨k, 0, none⟩ (.int .i64 x.k)).setCell ⟨k, 1, none⟩ (.int .i64 x.n)).setCell ⟨k, 2, none⟩ (.int .i64 x.t.k)).setCell ⟨k, 3, none⟩ (.slice x.t.a x.t.l.length x.t.c)).setCell ⟨k, 4, none⟩ (.int .i64 x.f.k)).cell? ⟨k, 4, none⟩ = some (.int .i64 x.f.k) ∧ ((((((w.setCell ⟨k, 0, none⟩ (.int .i64 x.k)).setCell ⟨k, 1, none⟩ (.int .i64 x.n)).setCell ⟨k, 2, none⟩ (.int .i64 x.t.k)).setCell ⟨k, 3, none⟩ (.slice x.t.a x.t.l.length x.t.c)).setCell ⟨k, 4, none⟩ (.int .i64 x.f.k)).setCell ⟨k, 5, none⟩ (.slice x.f.a x.f.l.length x.f.c)).cell? ⟨k, 5, none⟩ = some (.slice x.f.a x.f.l.length x.f.c) ∧ (((((((w.setCell ⟨k, 0, none⟩ (.int .i64 x.k)).setCell ⟨k, 1, none⟩ (.int .i64 x.n)).setCell ⟨k, 2, none⟩ (.int .i64 x.t.k)).setCell ⟨k, 3, none⟩ (.slice x.t.a x.t.l.length x.t.c)).setCell ⟨k, 4, none⟩ (.int .i64 x.f.k)).setCell ⟨k, 5, none⟩ (.slice x.f.a x.f.l.length x.f.c)).setCell ⟨k, 6, none⟩ (.slice x.a x.l.length x.c)).cell? ⟨k, 6, none⟩ = some (.slice x.a x.l.length x.c) := by
  have h7 := hbx.at7
  have c0 := h7.c0
  have c1 := h7.c1
  have c2 := h7.c2
  have c3 := h7.c3
  have c4 := h7.c4
  have c5 := h7.c5
  have c6 := h7.c6
  simp only [Nat.zero_add] at c0 c1 c2 c3 c4 c5 c6
  exact ⟨(World.cell?_setCell_same _ _ _ c0), (World.cell?_setCell_same _ _ _ (set_get (j := 0) c1)), (World.cell?_setCell_same _ _ _ (set_get (j := 1) (set_get (j := 0) c2))), (World.cell?_setCell_same _ _ _ (set_get (j := 2) (set_get (j := 1) (set_get (j := 0) c3)))), (World.cell?_setCell_same _ _ _ (set_get (j := 3) (set_get (j := 2) (set_get (j := 1) (set_get (j := 0) c4))))), (World.cell?_setCell_same _ _ _ (set_get (j := 4) (set_get (j := 3) (set_get (j := 2) (set_get (j := 1) (set_get (j := 0) c5)))))), (World.cell?_setCell_same _ _ _ (set_get (j := 5) (set_get (j := 4) (set_get (j := 3) (set_get (j := 2) (set_get (j := 1) (set_get (j := 0) c6)))))))⟩
/-- What is left in the result's place is what is answered. -/
theorem tm_end {R k : Nat} {b b' : Bool} {o : Option (Tm × List ByteArray)} {ws' : List ByteArray} {w w2 : World} {x y : TT} (hbx : Box7 w2 k y) (hk : w.heap.size ≤ k) (hR : R < k) (hi : x.In w2) (hbl : x.Bl (k < ·)) (hkp : Kept R none w w2) (hr : RS R ws' b' w2) (hs : StepR (o.map (·.2)) b ws' b') (he : ∀ p, o = some p → x.tm = p.1) :
    TmPost R b o w (.returned (.agg #[.int .i64 x.k, .int .i64 x.n, .int .i64 x.t.k, .slice x.t.a x.t.l.length x.t.c, .int .i64 x.f.k, .slice x.f.a x.f.l.length x.f.c, .slice x.a x.l.length x.c])) (put7 w2 k x) ∧ At7 (put7 w2 k x) k 0 x :=
  ⟨⟨x, rfl, hi.keptR put7_kept (hbl.mono fun b h => by omega), hbl.mono (fun b h => by omega), hkp.new put7_kept hk, hs.after (hr.new put7_kept hR), he⟩, (put7_box hbx).at7⟩
end Go.Proofs.YtnddkmccagiclaaGreatDoor
