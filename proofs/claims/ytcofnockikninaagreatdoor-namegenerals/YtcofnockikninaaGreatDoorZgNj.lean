/- Parts of the walk. -/
import Derived.Shelf.Strings.Builder1
import Derived.Shelf.Strings.Builder2
import Derived.Shelf.Small.Utf8
import Derived.Shelf.Small.Bits
import Derived.Shelf.Small.Strs
import Derived.Shelf.Strings.BuilderF
import Derived.Shelf.Strings.BuilderK
import Derived.Shelf.Strings.BuilderRune
import Derived.Shelf.Utf8.RuneCount
import Derived.Shelf.Strconv.Itoa0
import Derived.Shelf.Strconv.Itoa1
import Derived.Shelf.LaysM
import Derived.Shelf.Strconv.Itoa2
import Derived.Shelf.Strconv.Itoa3
import Derived.Shelf.Strings.Search1
import Derived.Shelf.Strings.Search2
import Derived.Shelf.Strings.Search3
import Derived.Shelf.Strings.Cut
import Derived.Shelf.Strings.Count
import Derived.Shelf.Strings.Shaped
import Derived.Shelf.Strings.Prefix
import Derived.Shelf.Strings.Split
import Derived.Shelf.Strings.SplitShaped
import Derived.Shelf.Unicode.Decode
import Derived.Shelf.Strings.Runes
import Derived.Shelf.Strings.RuneCount
import Derived.Shelf.Strings.IndexAny
import Derived.Shelf.Strings.AsciiSet
import Derived.Shelf.Strings.IndexAnyAll
import Derived.Shelf.Strings.Explode
import Derived.Shelf.Unicode.DecodeSlow
import Derived.Shelf.Unicode.DecodeAny
import Derived.Shelf.Strings.MapAny
import Derived.Shelf.Unicode.ValidAny
import Derived.Test.YtcofnockikninaaGreatDoorProg
import Derived.Test.YtcofnockikninaaGreatDoorZgNum9
import Derived.Test.YtcofnockikninaaGreatDoorZgNf
import Derived.Lib.AppendIntMem
import Derived.Test.YtcofnockikninaaGreatDoorZgNh
set_option maxRecDepth 100000
set_option maxHeartbeats 8000000
namespace Go.Proofs
open Go.Shelf
def Tryz.laysValid_ren : Go.Shelf.Ren := ⟨fun | 196 => 87 | 259 => 109 | n => n, fun | 9 => 9 | 4 => 4 | 3 => 3 | 5 => 5 | 12 => 12 | 119 => 143 | 0 => 0 | 46 => 118 | 139 => 146 | 138 => 145 | 53 => 163 | n => n, fun | 3 => 0 | 4 => 1 | n => n⟩
theorem Tryz.laysValid : Go.Proofs.Lays.n196 Tryz.prog Tryz.laysValid_ren := {
 mixed := by kernel_rfl
 f196 := Tryz.func87.trans (congrArg some (by kernel_rfl))
 f259 := Tryz.func109.trans (congrArg some (by kernel_rfl))
 t0 := Tryz.underlying0
 a0 := Tryz.isAgg0
 z0 := Tryz.sizeOf0
 v0 := Tryz.zeroValue0
 t3 := Tryz.underlying3
 a3 := Tryz.isAgg3
 z3 := Tryz.sizeOf3
 v3 := Tryz.zeroValue3
 t4 := Tryz.underlying4
 a4 := Tryz.isAgg4
 z4 := Tryz.sizeOf4
 v4 := Tryz.zeroValue4
 t5 := Tryz.underlying5
 a5 := Tryz.isAgg5
 z5 := Tryz.sizeOf5
 v5 := Tryz.zeroValue5
 t9 := Tryz.underlying9
 a9 := Tryz.isAgg9
 z9 := Tryz.sizeOf9
 v9 := Tryz.zeroValue9
 t12 := Tryz.underlying12
 a12 := Tryz.isAgg12
 z12 := Tryz.sizeOf12
 v12 := Tryz.zeroValue12
 t46 := Tryz.underlying118
 a46 := Tryz.isAgg118
 z46 := Tryz.sizeOf118
 v46 := Tryz.zeroValue118
 t53 := Tryz.underlying163
 a53 := Tryz.isAgg163
 z53 := Tryz.sizeOf163
 v53 := Tryz.zeroValue163
 t119 := Tryz.underlying143
 a119 := Tryz.isAgg143
 z119 := Tryz.sizeOf143
 t138 := Tryz.underlying145
 a138 := Tryz.isAgg145
 z138 := Tryz.sizeOf145
 v138 := Tryz.zeroValue145
 t139 := Tryz.underlying146
 a139 := Tryz.isAgg146
 z139 := Tryz.sizeOf146
 v139 := Tryz.zeroValue146
 g3 := by kernel_rfl
 g4 := by kernel_rfl }
open Go.RowKit Go.Lib in
theorem Tryz.utf8_ValidString (s : ByteArray) (w : World) (hs : s.size ≤ 9223372036854775807) (hT : Lib.Utf8Tabs 0 1 w) :
  Calls Tryz.prog 87 #[.string s] w fun e w' => e = .returned (.bool (Lib.validD s.data.toList)) ∧ Below w.heap.size w w' := Any.utf8_ValidString Tryz.laysValid s w hs hT
def Tryz.laysM171_ren : Go.Shelf.Ren := ⟨fun | 171 => 39 | 243 => 81 | 246 => 105 | 283 => 127 | 284 => 128 | 285 => 129 | 286 => 130 | 129 => 159 | 317 => 158 | 318 => 160 | 319 => 161 | 320 => 162 | 337 => 184 | 338 => 185 | n => n, fun | 3 => 3 | 9 => 9 | 2 => 2 | 4 => 4 | 171 => 162 | 0 => 0 | 53 => 163 | 37 => 22 | 5 => 5 | 173 => 166 | 212 => 188 | 51 => 189 | 20 => 20 | 213 => 190 | 46 => 118 | 232 => 205 | 233 => 206 | n => n, fun | 17 => 2 | 18 => 4 | 19 => 5 | n => n⟩
theorem Tryz.laysM171 : Go.Proofs.LaysM.n171 Tryz.prog Tryz.laysM171_ren := {
 mixed := by kernel_rfl
 f129 := Tryz.func159.trans (congrArg some (by kernel_rfl))
 f171 := Tryz.func39.trans (congrArg some (by kernel_rfl))
 f243 := Tryz.func81.trans (congrArg some (by kernel_rfl))
 f246 := Tryz.func105.trans (congrArg some (by kernel_rfl))
 f283 := Tryz.func127.trans (congrArg some (by kernel_rfl))
 f284 := Tryz.func128.trans (congrArg some (by kernel_rfl))
 f285 := Tryz.func129.trans (congrArg some (by kernel_rfl))
 f286 := Tryz.func130.trans (congrArg some (by kernel_rfl))
 f317 := Tryz.func158.trans (congrArg some (by kernel_rfl))
 f318 := Tryz.func160.trans (congrArg some (by kernel_rfl))
 f319 := Tryz.func161.trans (congrArg some (by kernel_rfl))
 f320 := Tryz.func162.trans (congrArg some (by kernel_rfl))
 f337 := Tryz.func184.trans (congrArg some (by kernel_rfl))
 f338 := Tryz.func185.trans (congrArg some (by kernel_rfl))
 t0 := Tryz.underlying0
 a0 := Tryz.isAgg0
 z0 := Tryz.sizeOf0
 v0 := Tryz.zeroValue0
 t2 := Tryz.underlying2
 a2 := Tryz.isAgg2
 z2 := Tryz.sizeOf2
 v2 := Tryz.zeroValue2
 t3 := Tryz.underlying3
 a3 := Tryz.isAgg3
 z3 := Tryz.sizeOf3
 v3 := Tryz.zeroValue3
 t4 := Tryz.underlying4
 a4 := Tryz.isAgg4
 z4 := Tryz.sizeOf4
 v4 := Tryz.zeroValue4
 t5 := Tryz.underlying5
 a5 := Tryz.isAgg5
 z5 := Tryz.sizeOf5
 v5 := Tryz.zeroValue5
 t9 := Tryz.underlying9
 a9 := Tryz.isAgg9
 z9 := Tryz.sizeOf9
 v9 := Tryz.zeroValue9
 t20 := Tryz.underlying20
 a20 := Tryz.isAgg20
 z20 := Tryz.sizeOf20
 v20 := Tryz.zeroValue20
 t37 := Tryz.underlying22
 a37 := Tryz.isAgg22
 z37 := Tryz.sizeOf22
 v37 := Tryz.zeroValue22
 t46 := Tryz.underlying118
 a46 := Tryz.isAgg118
 z46 := Tryz.sizeOf118
 v46 := Tryz.zeroValue118
 t51 := Tryz.underlying189
 a51 := Tryz.isAgg189
 z51 := Tryz.sizeOf189
 v51 := Tryz.zeroValue189
 t53 := Tryz.underlying163
 a53 := Tryz.isAgg163
 z53 := Tryz.sizeOf163
 v53 := Tryz.zeroValue163
 t171 := Tryz.underlying162
 a171 := Tryz.isAgg162
 z171 := Tryz.sizeOf162
 v171 := Tryz.zeroValue162
 t173 := Tryz.underlying166
 a173 := Tryz.isAgg166
 z173 := Tryz.sizeOf166
 v173 := Tryz.zeroValue166
 t212 := Tryz.underlying188
 a212 := Tryz.isAgg188
 z212 := Tryz.sizeOf188
 v212 := Tryz.zeroValue188
 t213 := Tryz.underlying190
 a213 := Tryz.isAgg190
 z213 := Tryz.sizeOf190
 t232 := Tryz.underlying205
 a232 := Tryz.isAgg205
 z232 := Tryz.sizeOf205
 v232 := Tryz.zeroValue205
 t233 := Tryz.underlying206
 a233 := Tryz.isAgg206
 z233 := Tryz.sizeOf206
 v233 := Tryz.zeroValue206
 g17 := by kernel_rfl
 g18 := by kernel_rfl
 g19 := by kernel_rfl
 i0 := by kernel_rfl
 i2 := by kernel_rfl
 i3 := by kernel_rfl
 i4 := by kernel_rfl
 i5 := by kernel_rfl
 i9 := by kernel_rfl
 i20 := by kernel_rfl
 i37 := by kernel_rfl
 i46 := by kernel_rfl
 i51 := by kernel_rfl
 i53 := by kernel_rfl
 i171 := by kernel_rfl
 i173 := by kernel_rfl
 i212 := by kernel_rfl
 i232 := by kernel_rfl
 i233 := by kernel_rfl
 m17 := by kernel_rfl
 m18 := by kernel_rfl
 m19 := by kernel_rfl }
open Go.RowKit Go.Sort Go.Lib in
theorem Tryz.strconv_Itoa (n : Int) (h0 : -9223372036854775808 ≤ n) (h1 : n ≤ 9223372036854775807) (w : World) (htab : Lib.TabIs Tryz.prog w "internal/strconv.uint64pow10" .u64 Lib.pow10Tab) :
  Calls Tryz.prog 39 #[.int .i64 n] w fun e w' => e = .returned (.string ⟨(Lib.itoa n).toArray⟩) ∧ ∃ k os, w' = grow (w.drewN k) os := Any.strconv_Itoa Tryz.laysM171 n h0 h1 w htab
def Tryz.lays171_ren : Go.Shelf.Ren := ⟨fun | 171 => 39 | 243 => 81 | 246 => 105 | 283 => 127 | 284 => 128 | 285 => 129 | 286 => 130 | 129 => 159 | 317 => 158 | 318 => 160 | 319 => 161 | 320 => 162 | 337 => 184 | 338 => 185 | n => n, fun | 3 => 3 | 9 => 9 | 2 => 2 | 4 => 4 | 171 => 162 | 0 => 0 | 53 => 163 | 37 => 22 | 5 => 5 | 173 => 166 | 212 => 188 | 51 => 189 | 20 => 20 | 213 => 190 | 46 => 118 | 232 => 205 | 233 => 206 | n => n, fun | 17 => 2 | 18 => 4 | 19 => 5 | n => n⟩
theorem Tryz.lays171 : Go.Proofs.Lays.n171 Tryz.prog Tryz.lays171_ren := {
 mixed := by kernel_rfl
 f129 := Tryz.func159.trans (congrArg some (by kernel_rfl))
 f171 := Tryz.func39.trans (congrArg some (by kernel_rfl))
 f243 := Tryz.func81.trans (congrArg some (by kernel_rfl))
 f246 := Tryz.func105.trans (congrArg some (by kernel_rfl))
 f283 := Tryz.func127.trans (congrArg some (by kernel_rfl))
 f284 := Tryz.func128.trans (congrArg some (by kernel_rfl))
 f285 := Tryz.func129.trans (congrArg some (by kernel_rfl))
 f286 := Tryz.func130.trans (congrArg some (by kernel_rfl))
 f317 := Tryz.func158.trans (congrArg some (by kernel_rfl))
 f318 := Tryz.func160.trans (congrArg some (by kernel_rfl))
 f319 := Tryz.func161.trans (congrArg some (by kernel_rfl))
 f320 := Tryz.func162.trans (congrArg some (by kernel_rfl))
 f337 := Tryz.func184.trans (congrArg some (by kernel_rfl))
 f338 := Tryz.func185.trans (congrArg some (by kernel_rfl))
 t0 := Tryz.underlying0
 a0 := Tryz.isAgg0
 z0 := Tryz.sizeOf0
 v0 := Tryz.zeroValue0
 t2 := Tryz.underlying2
 a2 := Tryz.isAgg2
 z2 := Tryz.sizeOf2
 v2 := Tryz.zeroValue2
 t3 := Tryz.underlying3
 a3 := Tryz.isAgg3
 z3 := Tryz.sizeOf3
 v3 := Tryz.zeroValue3
 t4 := Tryz.underlying4
 a4 := Tryz.isAgg4
 z4 := Tryz.sizeOf4
 v4 := Tryz.zeroValue4
 t5 := Tryz.underlying5
 a5 := Tryz.isAgg5
 z5 := Tryz.sizeOf5
 v5 := Tryz.zeroValue5
 t9 := Tryz.underlying9
 a9 := Tryz.isAgg9
 z9 := Tryz.sizeOf9
 v9 := Tryz.zeroValue9
 t20 := Tryz.underlying20
 a20 := Tryz.isAgg20
 z20 := Tryz.sizeOf20
 v20 := Tryz.zeroValue20
 t37 := Tryz.underlying22
 a37 := Tryz.isAgg22
 z37 := Tryz.sizeOf22
 v37 := Tryz.zeroValue22
 t46 := Tryz.underlying118
 a46 := Tryz.isAgg118
 z46 := Tryz.sizeOf118
 v46 := Tryz.zeroValue118
 t51 := Tryz.underlying189
 a51 := Tryz.isAgg189
 z51 := Tryz.sizeOf189
 v51 := Tryz.zeroValue189
 t53 := Tryz.underlying163
 a53 := Tryz.isAgg163
 z53 := Tryz.sizeOf163
 v53 := Tryz.zeroValue163
 t171 := Tryz.underlying162
 a171 := Tryz.isAgg162
 z171 := Tryz.sizeOf162
 v171 := Tryz.zeroValue162
 t173 := Tryz.underlying166
 a173 := Tryz.isAgg166
 z173 := Tryz.sizeOf166
 v173 := Tryz.zeroValue166
 t212 := Tryz.underlying188
 a212 := Tryz.isAgg188
 z212 := Tryz.sizeOf188
 v212 := Tryz.zeroValue188
 t213 := Tryz.underlying190
 a213 := Tryz.isAgg190
 z213 := Tryz.sizeOf190
 t232 := Tryz.underlying205
 a232 := Tryz.isAgg205
 z232 := Tryz.sizeOf205
 v232 := Tryz.zeroValue205
 t233 := Tryz.underlying206
 a233 := Tryz.isAgg206
 z233 := Tryz.sizeOf206
 v233 := Tryz.zeroValue206
 g17 := by kernel_rfl
 g18 := by kernel_rfl
 g19 := by kernel_rfl }
open Go.RowKit Go.Sort Go.Lib in
theorem Tryz.strconv_Itoa_small (i : Nat) (hi : i < 100) (w : World) :
  Calls Tryz.prog 39 #[.int .i64 i] w fun e w' => e = .returned (.string ⟨(Lib.decDigits i).toArray⟩) ∧ w' = w := Any.strconv_Itoa_small Tryz.lays171 i hi w
open Go.RowKit Go.Lib in
open Go.RowKit Go.Lib in
def Tryz.lays100_ren : Go.Shelf.Ren := ⟨fun | 100 => 98 | 207 => 119 | n => n, fun | 9 => 9 | 4 => 4 | 3 => 3 | n => n, fun | n => n⟩
theorem Tryz.lays100 : Go.Proofs.Lays.n100 Tryz.prog Tryz.lays100_ren := {
 mixed := by kernel_rfl
 f100 := Tryz.func98.trans (congrArg some (by kernel_rfl))
 f207 := Tryz.func119.trans (congrArg some (by kernel_rfl))
 t3 := Tryz.underlying3
 a3 := Tryz.isAgg3
 z3 := Tryz.sizeOf3
 v3 := Tryz.zeroValue3
 t4 := Tryz.underlying4
 a4 := Tryz.isAgg4
 z4 := Tryz.sizeOf4
 v4 := Tryz.zeroValue4
 t9 := Tryz.underlying9
 a9 := Tryz.isAgg9
 z9 := Tryz.sizeOf9
 v9 := Tryz.zeroValue9 }
open Go.RowKit Go.Lib in
theorem Tryz.strings_HasSuffix (s p : ByteArray) (w : World) (hs : s.size ≤ 9223372036854775807) :
  Calls Tryz.prog 98 #[.string s, .string p] w fun e w' => e = .returned (.bool (Lib.hasSuffix s.data.toList p.data.toList)) ∧ w' = w := Any.strings_HasSuffix Tryz.lays100 s p w hs
def Tryz.lays146_ren : Go.Shelf.Ren := ⟨fun | 146 => 114 | 221 => 107 | 268 => 134 | 138 => 135 | 143 => 136 | 195 => 164 | 197 => 139 | 218 => 165 | 219 => 137 | 260 => 168 | 217 => 166 | 225 => 152 | 224 => 151 | 267 => 167 | 266 => 186 | 314 => 187 | n => n, fun | 9 => 9 | 31 => 121 | 3 => 3 | 4 => 4 | 0 => 0 | 105 => 174 | 21 => 21 | 5 => 5 | 46 => 118 | 119 => 143 | 139 => 146 | 138 => 145 | 146 => 196 | 51 => 189 | n => n, fun | 1 => 3 | 3 => 0 | 4 => 1 | n => n⟩
theorem Tryz.lays146 : Go.Proofs.Lays.n146 Tryz.prog Tryz.lays146_ren := {
 mixed := by kernel_rfl
 f138 := Tryz.func135.trans (congrArg some (by kernel_rfl))
 f143 := Tryz.func136.trans (congrArg some (by kernel_rfl))
 f146 := Tryz.func114.trans (congrArg some (by kernel_rfl))
 f195 := Tryz.func164.trans (congrArg some (by kernel_rfl))
 f197 := Tryz.func139.trans (congrArg some (by kernel_rfl))
 f217 := Tryz.func166.trans (congrArg some (by kernel_rfl))
 f218 := Tryz.func165.trans (congrArg some (by kernel_rfl))
 f219 := Tryz.func137.trans (congrArg some (by kernel_rfl))
 f221 := Tryz.func107.trans (congrArg some (by kernel_rfl))
 f224 := Tryz.func151.trans (congrArg some (by kernel_rfl))
 f225 := Tryz.func152.trans (congrArg some (by kernel_rfl))
 f260 := Tryz.func168.trans (congrArg some (by kernel_rfl))
 f266 := Tryz.func186.trans (congrArg some (by kernel_rfl))
 f267 := Tryz.func167.trans (congrArg some (by kernel_rfl))
 f268 := Tryz.func134.trans (congrArg some (by kernel_rfl))
 f314 := Tryz.func187.trans (congrArg some (by kernel_rfl))
 t0 := Tryz.underlying0
 a0 := Tryz.isAgg0
 z0 := Tryz.sizeOf0
 v0 := Tryz.zeroValue0
 t3 := Tryz.underlying3
 a3 := Tryz.isAgg3
 z3 := Tryz.sizeOf3
 v3 := Tryz.zeroValue3
 t4 := Tryz.underlying4
 a4 := Tryz.isAgg4
 z4 := Tryz.sizeOf4
 v4 := Tryz.zeroValue4
 t5 := Tryz.underlying5
 a5 := Tryz.isAgg5
 z5 := Tryz.sizeOf5
 v5 := Tryz.zeroValue5
 t9 := Tryz.underlying9
 a9 := Tryz.isAgg9
 z9 := Tryz.sizeOf9
 v9 := Tryz.zeroValue9
 t21 := Tryz.underlying21
 a21 := Tryz.isAgg21
 z21 := Tryz.sizeOf21
 v21 := Tryz.zeroValue21
 t31 := Tryz.underlying121
 a31 := Tryz.isAgg121
 z31 := Tryz.sizeOf121
 v31 := Tryz.zeroValue121
 t46 := Tryz.underlying118
 a46 := Tryz.isAgg118
 z46 := Tryz.sizeOf118
 v46 := Tryz.zeroValue118
 t51 := Tryz.underlying189
 a51 := Tryz.isAgg189
 z51 := Tryz.sizeOf189
 v51 := Tryz.zeroValue189
 t105 := Tryz.underlying174
 a105 := Tryz.isAgg174
 z105 := Tryz.sizeOf174
 v105 := Tryz.zeroValue174
 t119 := Tryz.underlying143
 a119 := Tryz.isAgg143
 z119 := Tryz.sizeOf143
 t138 := Tryz.underlying145
 a138 := Tryz.isAgg145
 z138 := Tryz.sizeOf145
 v138 := Tryz.zeroValue145
 t139 := Tryz.underlying146
 a139 := Tryz.isAgg146
 z139 := Tryz.sizeOf146
 v139 := Tryz.zeroValue146
 t146 := Tryz.underlying196
 a146 := Tryz.isAgg196
 z146 := Tryz.sizeOf196
 v146 := Tryz.zeroValue196
 g1 := by kernel_rfl
 g3 := by kernel_rfl
 g4 := by kernel_rfl }
open Go.RowKit Go.Lib in
theorem Tryz.strings_Split (s sep : ByteArray) (m : Int) (w : World) (hs : s.size < 4294967281) (hm : w.cell? ⟨3, 0, none⟩ = some (.int .i64 m)) (h1 : 1 ≤ sep.size) :
  Calls Tryz.prog 114 #[.string s, .string sep] w fun e w' =>
   e = .returned (.slice (some ⟨w.heap.size, 0, none⟩) (Lib.countB s sep + 1) (Lib.countB s sep + 1)) ∧ w' = w.alloc (.cells ((Lib.splitB sep 0 (Lib.countB s sep) s).map Value.string).toArray 9) := Any.strings_Split Tryz.lays146 (by kernel_rfl) s sep m w hs hm h1
def Tryz.lays147_ren : Go.Shelf.Ren := ⟨fun | 147 => 83 | 221 => 107 | 268 => 134 | 138 => 135 | 143 => 136 | 195 => 164 | 197 => 139 | 218 => 165 | 219 => 137 | 260 => 168 | 217 => 166 | 225 => 152 | 224 => 151 | 267 => 167 | 266 => 186 | 314 => 187 | n => n, fun | 9 => 9 | 3 => 3 | 31 => 121 | 4 => 4 | 0 => 0 | 105 => 174 | 21 => 21 | 5 => 5 | 46 => 118 | 119 => 143 | 139 => 146 | 138 => 145 | 146 => 196 | 51 => 189 | n => n, fun | 1 => 3 | 3 => 0 | 4 => 1 | n => n⟩
theorem Tryz.lays147 : Go.Proofs.Lays.n147 Tryz.prog Tryz.lays147_ren := {
 mixed := by kernel_rfl
 f138 := Tryz.func135.trans (congrArg some (by kernel_rfl))
 f143 := Tryz.func136.trans (congrArg some (by kernel_rfl))
 f147 := Tryz.func83.trans (congrArg some (by kernel_rfl))
 f195 := Tryz.func164.trans (congrArg some (by kernel_rfl))
 f197 := Tryz.func139.trans (congrArg some (by kernel_rfl))
 f217 := Tryz.func166.trans (congrArg some (by kernel_rfl))
 f218 := Tryz.func165.trans (congrArg some (by kernel_rfl))
 f219 := Tryz.func137.trans (congrArg some (by kernel_rfl))
 f221 := Tryz.func107.trans (congrArg some (by kernel_rfl))
 f224 := Tryz.func151.trans (congrArg some (by kernel_rfl))
 f225 := Tryz.func152.trans (congrArg some (by kernel_rfl))
 f260 := Tryz.func168.trans (congrArg some (by kernel_rfl))
 f266 := Tryz.func186.trans (congrArg some (by kernel_rfl))
 f267 := Tryz.func167.trans (congrArg some (by kernel_rfl))
 f268 := Tryz.func134.trans (congrArg some (by kernel_rfl))
 f314 := Tryz.func187.trans (congrArg some (by kernel_rfl))
 t0 := Tryz.underlying0
 a0 := Tryz.isAgg0
 z0 := Tryz.sizeOf0
 v0 := Tryz.zeroValue0
 t3 := Tryz.underlying3
 a3 := Tryz.isAgg3
 z3 := Tryz.sizeOf3
 v3 := Tryz.zeroValue3
 t4 := Tryz.underlying4
 a4 := Tryz.isAgg4
 z4 := Tryz.sizeOf4
 v4 := Tryz.zeroValue4
 t5 := Tryz.underlying5
 a5 := Tryz.isAgg5
 z5 := Tryz.sizeOf5
 v5 := Tryz.zeroValue5
 t9 := Tryz.underlying9
 a9 := Tryz.isAgg9
 z9 := Tryz.sizeOf9
 v9 := Tryz.zeroValue9
 t21 := Tryz.underlying21
 a21 := Tryz.isAgg21
 z21 := Tryz.sizeOf21
 v21 := Tryz.zeroValue21
 t31 := Tryz.underlying121
 a31 := Tryz.isAgg121
 z31 := Tryz.sizeOf121
 v31 := Tryz.zeroValue121
 t46 := Tryz.underlying118
 a46 := Tryz.isAgg118
 z46 := Tryz.sizeOf118
 v46 := Tryz.zeroValue118
 t51 := Tryz.underlying189
 a51 := Tryz.isAgg189
 z51 := Tryz.sizeOf189
 v51 := Tryz.zeroValue189
 t105 := Tryz.underlying174
 a105 := Tryz.isAgg174
 z105 := Tryz.sizeOf174
 v105 := Tryz.zeroValue174
 t119 := Tryz.underlying143
 a119 := Tryz.isAgg143
 z119 := Tryz.sizeOf143
 t138 := Tryz.underlying145
 a138 := Tryz.isAgg145
 z138 := Tryz.sizeOf145
 v138 := Tryz.zeroValue145
 t139 := Tryz.underlying146
 a139 := Tryz.isAgg146
 z139 := Tryz.sizeOf146
 v139 := Tryz.zeroValue146
 t146 := Tryz.underlying196
 a146 := Tryz.isAgg196
 z146 := Tryz.sizeOf196
 v146 := Tryz.zeroValue196
 g1 := by kernel_rfl
 g3 := by kernel_rfl
 g4 := by kernel_rfl }
open Go.RowKit Go.Lib in
theorem Tryz.strings_SplitN (s sep : ByteArray) (n : Nat) (m : Int) (w : World) (hs : s.size < 4294967281) (hm : w.cell? ⟨3, 0, none⟩ = some (.int .i64 m)) (h1 : 1 ≤ sep.size) (hn : 1 ≤ n) (hn63 : n ≤ 9223372036854775807) :
  Calls Tryz.prog 83 #[.string s, .string sep, .int .i64 n] w fun e w' =>
   e = .returned (.slice (some ⟨w.heap.size, 0, none⟩) (Lib.splitB sep 0 (min n (s.size + 1) - 1) s).length (min n (s.size + 1))) ∧ w' = w.alloc (.cells (Lib.cellsOf (Lib.splitB sep 0 (min n (s.size + 1) - 1) s) (min n (s.size + 1))) 9) := Any.strings_SplitN Tryz.lays147 (by kernel_rfl) s sep n m w hs hm h1 hn hn63
open Go.RowKit Go.Lib in
def Tryz.lays230_ren : Go.Shelf.Ren := ⟨fun | 230 => 116 | 197 => 139 | 118 => 140 | 165 => 141 | 166 => 142 | 168 => 143 | 270 => 144 | 167 => 145 | 169 => 146 | 260 => 168 | 240 => 169 | 241 => 170 | 242 => 171 | 276 => 188 | 277 => 189 | 278 => 190 | n => n, fun | 107 => 150 | 9 => 9 | 72 => 173 | 0 => 0 | 4 => 4 | 3 => 3 | 21 => 21 | 105 => 174 | 76 => 180 | 5 => 5 | 75 => 179 | 70 => 171 | 20 => 20 | 37 => 22 | 127 => 194 | 119 => 143 | 46 => 118 | 139 => 146 | 138 => 145 | 164 => 198 | 51 => 189 | 80 => 184 | n => n, fun | 3 => 0 | 4 => 1 | n => n⟩
theorem Tryz.lays230 : Go.Proofs.Lays.n230 Tryz.prog Tryz.lays230_ren := {
 mixed := by kernel_rfl
 f118 := Tryz.func140.trans (congrArg some (by kernel_rfl))
 f165 := Tryz.func141.trans (congrArg some (by kernel_rfl))
 f166 := Tryz.func142.trans (congrArg some (by kernel_rfl))
 f167 := Tryz.func145.trans (congrArg some (by kernel_rfl))
 f168 := Tryz.func143.trans (congrArg some (by kernel_rfl))
 f169 := Tryz.func146.trans (congrArg some (by kernel_rfl))
 f197 := Tryz.func139.trans (congrArg some (by kernel_rfl))
 f230 := Tryz.func116.trans (congrArg some (by kernel_rfl))
 f240 := Tryz.func169.trans (congrArg some (by kernel_rfl))
 f241 := Tryz.func170.trans (congrArg some (by kernel_rfl))
 f242 := Tryz.func171.trans (congrArg some (by kernel_rfl))
 f260 := Tryz.func168.trans (congrArg some (by kernel_rfl))
 f270 := Tryz.func144.trans (congrArg some (by kernel_rfl))
 f276 := Tryz.func188.trans (congrArg some (by kernel_rfl))
 f277 := Tryz.func189.trans (congrArg some (by kernel_rfl))
 f278 := Tryz.func190.trans (congrArg some (by kernel_rfl))
 t0 := Tryz.underlying0
 a0 := Tryz.isAgg0
 z0 := Tryz.sizeOf0
 v0 := Tryz.zeroValue0
 t3 := Tryz.underlying3
 a3 := Tryz.isAgg3
 z3 := Tryz.sizeOf3
 v3 := Tryz.zeroValue3
 t4 := Tryz.underlying4
 a4 := Tryz.isAgg4
 z4 := Tryz.sizeOf4
 v4 := Tryz.zeroValue4
 t5 := Tryz.underlying5
 a5 := Tryz.isAgg5
 z5 := Tryz.sizeOf5
 v5 := Tryz.zeroValue5
 t9 := Tryz.underlying9
 a9 := Tryz.isAgg9
 z9 := Tryz.sizeOf9
 v9 := Tryz.zeroValue9
 t20 := Tryz.underlying20
 a20 := Tryz.isAgg20
 z20 := Tryz.sizeOf20
 v20 := Tryz.zeroValue20
 t21 := Tryz.underlying21
 a21 := Tryz.isAgg21
 z21 := Tryz.sizeOf21
 v21 := Tryz.zeroValue21
 t37 := Tryz.underlying22
 a37 := Tryz.isAgg22
 z37 := Tryz.sizeOf22
 v37 := Tryz.zeroValue22
 t46 := Tryz.underlying118
 a46 := Tryz.isAgg118
 z46 := Tryz.sizeOf118
 v46 := Tryz.zeroValue118
 t51 := Tryz.underlying189
 a51 := Tryz.isAgg189
 z51 := Tryz.sizeOf189
 v51 := Tryz.zeroValue189
 t70 := Tryz.underlying171
 a70 := Tryz.isAgg171
 z70 := Tryz.sizeOf171
 v70 := Tryz.zeroValue171
 t72 := Tryz.underlying173
 a72 := Tryz.isAgg173
 z72 := Tryz.sizeOf173
 v72 := Tryz.zeroValue173
 t75 := Tryz.underlying179
 a75 := Tryz.isAgg179
 z75 := Tryz.sizeOf179
 v75 := Tryz.zeroValue179
 t76 := Tryz.underlying180
 a76 := Tryz.isAgg180
 z76 := Tryz.sizeOf180
 v76 := Tryz.zeroValue180
 t105 := Tryz.underlying174
 a105 := Tryz.isAgg174
 z105 := Tryz.sizeOf174
 v105 := Tryz.zeroValue174
 t107 := Tryz.underlying150
 a107 := Tryz.isAgg150
 z107 := Tryz.sizeOf150
 v107 := Tryz.zeroValue150
 t119 := Tryz.underlying143
 a119 := Tryz.isAgg143
 z119 := Tryz.sizeOf143
 t127 := Tryz.underlying194
 a127 := Tryz.isAgg194
 z127 := Tryz.sizeOf194
 v127 := Tryz.zeroValue194
 t138 := Tryz.underlying145
 a138 := Tryz.isAgg145
 z138 := Tryz.sizeOf145
 v138 := Tryz.zeroValue145
 t139 := Tryz.underlying146
 a139 := Tryz.isAgg146
 z139 := Tryz.sizeOf146
 v139 := Tryz.zeroValue146
 t164 := Tryz.underlying198
 a164 := Tryz.isAgg198
 z164 := Tryz.sizeOf198
 v164 := Tryz.zeroValue198
 g3 := by kernel_rfl
 g4 := by kernel_rfl }
theorem Tryz.Builder_Extra_230 : Builder.Extra Tryz.prog Tryz.lays230_ren := {
 sizeBuilder := by kernel_rfl
 liesBuilder := by kernel_rfl
 t5 := Tryz.underlying5
 a5 := Tryz.isAgg5
 z5 := Tryz.sizeOf5
 v5 := Tryz.zeroValue5
 infoByte := by kernel_rfl
 cellsByte := by kernel_rfl
 sizeByte := by kernel_rfl
 neB5 := by decide }
open Go.RowKit Go.Lib in
theorem Tryz.strings_Map_runes (g : Nat) (lb : Array Value) (eg : ∀ args w, (callFunc g args).run Tryz.prog w = .ok (.enter g args) w) (f : Int → Int) (s : ByteArray) (w : World) (hs : s.size < 35184372088832) (hf : MapAtRunes Tryz.prog g lb f w) (hnn : ∀ x : Nat, x ≤ 1114111 → 0 ≤ f x ∧ f x ≤ 2147483647) (hT : Lib.Utf8Tabs 0 1 w) :
  Calls Tryz.prog 116 #[.func (.func g) #[] lb, .string s] w fun e w' => e = .returned (.string ⟨(Lib.mapD f s.data.toList).toArray⟩) ∧ Below w.heap.size w w' := Any.strings_Map_runes Tryz.lays230 Tryz.Builder_Extra_230 g lb eg f s w hs hf hnn hT
end Go.Proofs
namespace Go.Proofs.YtcofnockikninaaGreatDoor
open Go.RowKit
namespace N
open K
structure Rdy (w : World) : Prop where
 tabs : Tabs w
 pow : Lib.TabIs Tryz.prog w "internal/strconv.uint64pow10" .u64 Lib.pow10Tab
 maxl : ∃ m, w.cell? ⟨3, 0, none⟩ = some (.int .i64 m)
theorem Rdy.below {a b : World} (h : Rdy a) (hb : Below a.heap.size a b) : Rdy b :=
 ⟨h.tabs.below hb, Lib.tabBelow_of_tabIs h.pow b hb, by
  obtain ⟨m, hm⟩ := h.maxl
  exact ⟨m, by rw [hb.cell (World.block_lt_of_cell? a _ hm)]; exact hm⟩⟩
theorem itoa_c (w : World) (hR : Rdy w) (n : Nat) (hn : n ≤ 9223372036854775807) : Calls Tryz.prog 39 #[.int .i64 (n : Int)] w fun e w' => e = .returned (.string (st (Lib.decDigits n))) ∧ Below w.heap.size w w' := by
 refine (Tryz.strconv_Itoa (n : Int) (by omega) (by omega) w hR.pow).mono ?_
 rintro e w' ⟨rfl, k, os, rfl⟩
 refine ⟨?_, ?_⟩
 ·have : Lib.itoa (n : Int) = Lib.decDigits n := by unfold Lib.itoa; rw [if_neg (by omega), Int.toNat_natCast]
  rw [this]
 ·exact Lib.below_grow _ w (Nat.le_refl _) k os
theorem itoa_small_c (w : World) (n : Nat) (hn : n < 100) : Calls Tryz.prog 39 #[.int .i64 (n : Int)] w fun e w' => e = .returned (.string (st (Lib.decDigits n))) ∧ w' = w := Tryz.strconv_Itoa_small n hn w
end N
open Go.Lib (decDigits)
theorem nDigits_le : ∀ (k u : Nat), u < 10 ^ (k + 1) → Lib.nDigits u ≤ k + 1
 | 0, u, h => by rw [Lib.nDigits_small (by omega)]; omega
 | k + 1, u, h => by
  by_cases h10 : u < 10
  ·rw [Lib.nDigits_small h10]; omega
  ·rw [Lib.nDigits_big h10]
   have := nDigits_le k (u / 10) (by rw [Nat.pow_succ] at h; omega)
   omega
theorem dec_len {u : Nat} (h : u < 1099511627776) : (decDigits u).length ≤ 13 := by
 rw [Lib.decDigits_length]
 exact nDigits_le 12 u (by omega)
theorem restT_len : ∀ (gs : List Nat), (∀ g ∈ gs, g < 1099511627776) → (restT gs).length ≤ 14 * gs.length
 | [], _ => by simp [restT]
 | g :: r, h => by
  have ih := restT_len r (fun x hx => h x (List.mem_cons_of_mem _ hx))
  have := dec_len (h g List.mem_cons_self)
  unfold restT at *
  rw [List.flatMap_cons, List.length_append, List.length_cons, List.length_cons]
  omega
namespace N
open K
theorem under_ints : Tryz.prog.underlying 81 = some (.slice (Tryz.prog.elem 81)) := by kernel_rfl
theorem elem_ints : Tryz.prog.elem 81 = 3 := by kernel_rfl
theorem size3 (w : World) : (Go.sizeOf 3).run Tryz.prog w = .ok 1 w := by
 obtain ⟨_, ⟨i, hi, _, hsz, _⟩, _, _⟩ := Eints
 simp [Go.sizeOf, typeInfo, hi, hsz]
theorem slice_ints (sp : Option Addr) (K c f : Nat) (hf : f ≤ K) (w : World) : (Instr.sliceAt 81 (.slice sp K c) (some (.int .i64 (f : Int))) none none).run Tryz.prog w = .ok (.slice (cutAt sp c f) (K - f) (c - f)) w := by
 rw [run_sliceAt_slice w 81 _ _ _ _ under_ints, run_slice_l w 81 sp K c under_ints .i64 (f : Int) (by omega) (by omega), elem_ints, size3, Result.andThen_ok]
 simp only [sliced, Int.toNat_natCast, Nat.mul_one]
 rfl
theorem vals_drop {w : World} {sp : Option Addr} {c : Nat} {l : List Value} (h : ValsAt w (.slice sp l.length c) l) (f : Nat) (hf : f ≤ l.length) : ValsAt w (.slice (cutAt sp c f) (l.length - f) (c - f)) (l.drop f) := by
 obtain ⟨sp', c', ex, h1, h2, h3⟩ := h
 simp only [Value.slice.injEq] at ex
 obtain ⟨rfl, _, rfl⟩ := ex
 refine ⟨_, _, by rw [List.length_drop], by rw [List.length_drop]; omega, fun h => ?_, fun hne => ?_⟩
 ·unfold cutAt at h
  split at h
  ·omega
  ·have : sp = none := by cases sp with
    | none => rfl
    | some a => simp at h
   rw [h2 this]; omega
 ·have hpos : f < l.length := by
   rcases Nat.lt_or_ge f l.length with h0 | h0
   ·exact h0
   ·exact absurd (List.drop_eq_nil_of_le h0) hne
  obtain ⟨bb, o, rfl, hr⟩ := h3 (by intro e0; rw [e0] at hpos; simp at hpos)
  unfold cutAt
  rw [if_neg (by omega)]
  refine ⟨bb, o + f, by simp [Addr.add_mid], fun j v hv => ?_⟩
  rw [List.getElem?_drop] at hv
  have := hr (f + j) v hv
  rwa [← Nat.add_assoc] at this
theorem oidT_no {v : DV} (h : ¬ (v.cls = 0 ∧ v.tag = 6 ∧ rightV v = true)) : oidT v = none := by unfold oidT; rw [if_neg h]
theorem oid_other (w : World) (S : Nat → Prop) (cs : List Value) (v : DV) (hRd : Rdy w) (hv : ValAt S w cs v) (hw : weight v ≤ 1000000) (hn : ¬ (v.cls = 0 ∧ v.tag = 6)) :
  Calls Tryz.prog 11 #[.agg cs.toArray] w fun e w' => e = .returned (.tuple #[.string (st ((oidT v).getD [])), .bool (oidT v).isSome]) ∧ Below w.heap.size w w' := by
 have HE : Hid (oidT v = none) := oidT_no (fun h => hn ⟨h.1, h.2.1⟩)
 obtain ⟨s1, c1, s2, c2, rfl⟩ := hv.form
 obtain ⟨kc, kt, km, kl, kk, hkc, hkt, hkm, hkl, hkk⟩ := ex5 v
 rw [hkc, hkt, hkm, hkl, hkk] at hv ⊢
 rw [hkc, hkt] at hn
 clear hkc hkt hkm hkl hkk
 obtain ⟨w1, X, hw1, eX, hA⟩ := blkN (Below.refl w.heap.size w) #[.int .i64 kc, .int .i64 kt, .bool km, .slice s1 kl c1, .slice s2 kk c2] 25
 obtain ⟨k0, k1, k2, k3, k4⟩ := five_at hA
 have HA := h_ hA
 have hT := hRd.tabs
 have HT := h_ hT
 have HV := h_ hv
 have Hw := h_ hw
 have HI : Hid (∀ (wr : World) (g : Int) (A B : Bool), (kc == 0) = A → (kt == g) = B → Calls Tryz.prog 36 #[.agg #[.int .i64 kc, .int .i64 kt, .bool km, .slice s1 kl c1, .slice s2 kk c2], .int .i64 g] wr fun e w' => e = .returned (.bool (A && B)) ∧ Below wr.heap.size wr w') := fun wr g A B h1 h2 => isuni_c wr kc kt km s1 s2 kl kk c1 c2 g A B h1 h2
 have HRt : Hid (∀ wr : World, Below w.heap.size w wr → Calls Tryz.prog 37 #[.agg #[.int .i64 kc, .int .i64 kt, .bool km, .slice s1 kl c1, .slice s2 kk c2]] wr fun e w' => e = .returned (.bool (rightV v)) ∧ Below wr.heap.size wr w') := fun wr hb => isright_c wr S _ v (hT.below hb) (hv.below hb) hw
 unfold dcells
 obtain ⟨A, hA0⟩ := exq (kc == 0)
 obtain ⟨B, hB0⟩ := exq (kt == 6)
 have h6 : (A && B) = false := by
  cases A <;> cases B <;> simp_all
 have HI1 := h_ (u_ HI w1 6 A B hA0 hB0)
 rw [h6] at HI1
 clear hA hv hw hT hA0 hB0 h6 hn
 go_enter Tryz.func11, Tryz.ntmps11
 go_wp2_with fail
 refine HI1.mono ?_
 rintro e w2 ⟨rfl, hb⟩
 have HA := h_ (HA.call hb)
 clear hb k0 k1 k2 k3 k4
 obtain ⟨k0, k1, k2, k3, k4⟩ := five_at (u_ HA)
 go_wp2
 go_ret2
 exact ⟨by rw [u_ HE]; rfl, HA.b⟩
theorem oid_bad (w : World) (S : Nat → Prop) (cs : List Value) (v : DV) (hRd : Rdy w) (hv : ValAt S w cs v) (hw : weight v ≤ 1000000) (hc : v.cls = 0) (ht : v.tag = 6) (hr : rightV v = false) :
  Calls Tryz.prog 11 #[.agg cs.toArray] w fun e w' => e = .returned (.tuple #[.string (st ((oidT v).getD [])), .bool (oidT v).isSome]) ∧ Below w.heap.size w w' := by
 have HE : Hid (oidT v = none) := oidT_no (fun h => by rw [hr] at h; exact absurd h.2.2 (by simp))
 obtain ⟨s1, c1, s2, c2, rfl⟩ := hv.form
 obtain ⟨kc, kt, km, kl, kk, hkc, hkt, hkm, hkl, hkk⟩ := ex5 v
 rw [hkc, hkt, hkm, hkl, hkk] at hv ⊢
 obtain rfl : kc = 0 := hkc.symm.trans hc
 obtain rfl : kt = 6 := hkt.symm.trans ht
 have Hr := h_ hr
 clear hkc hkt hkm hkl hkk hc ht hr
 obtain ⟨w1, X, hw1, eX, hA⟩ := blkN (Below.refl w.heap.size w) #[.int .i64 0, .int .i64 6, .bool km, .slice s1 kl c1, .slice s2 kk c2] 25
 obtain ⟨k0, k1, k2, k3, k4⟩ := five_at hA
 have HA := h_ hA
 have hT := hRd.tabs
 have HT := h_ hT
 have HV := h_ hv
 have Hw := h_ hw
 have HI : Hid (∀ (wr : World) (g : Int) (A B : Bool), ((0 : Int) == 0) = A → ((6 : Int) == g) = B → Calls Tryz.prog 36 #[.agg #[.int .i64 0, .int .i64 6, .bool km, .slice s1 kl c1, .slice s2 kk c2], .int .i64 g] wr fun e w' => e = .returned (.bool (A && B)) ∧ Below wr.heap.size wr w') := fun wr g A B h1 h2 => isuni_c wr 0 6 km s1 s2 kl kk c1 c2 g A B h1 h2
 have HRt : Hid (∀ wr : World, Below w.heap.size w wr → Calls Tryz.prog 37 #[.agg #[.int .i64 0, .int .i64 6, .bool km, .slice s1 kl c1, .slice s2 kk c2]] wr fun e w' => e = .returned (.bool (rightV v)) ∧ Below wr.heap.size wr w') := fun wr hb => isright_c wr S _ v (hT.below hb) (hv.below hb) hw
 unfold dcells
 have HRt2 : Hid (∀ wr : World, Below w.heap.size w wr → Calls Tryz.prog 37 #[.agg #[.int .i64 0, .int .i64 6, .bool km, .slice s1 kl c1, .slice s2 kk c2]] wr fun e w' => e = .returned (.bool false) ∧ Below wr.heap.size wr w') := fun wr hb => by
  have := u_ HRt wr hb
  rw [u_ Hr] at this
  exact this
 clear HRt
 have HIu : Hid (Calls Tryz.prog 36 #[.agg #[.int .i64 0, .int .i64 6, .bool km, .slice s1 kl c1, .slice s2 kk c2], .int .i64 6] w1 fun e w' => e = .returned (.bool true) ∧ Below w1.heap.size w1 w') := u_ HI w1 6 true true rfl rfl
 clear hA hv hw hT
 go_enter Tryz.func11, Tryz.ntmps11
 go_wp2_with fail
 refine HIu.mono ?_
 rintro e w2 ⟨rfl, hb⟩
 have HA := h_ (HA.call hb)
 clear hb k0 k1 k2 k3 k4
 obtain ⟨k0, k1, k2, k3, k4⟩ := five_at (u_ HA)
 go_wp2_with fail
 refine (u_ HRt2 w2 HA.b).mono ?_
 rintro e w4 ⟨rfl, hb⟩
 have HA := h_ (HA.call hb)
 clear hb k0 k1 k2 k3 k4
 obtain ⟨k0, k1, k2, k3, k4⟩ := five_at (u_ HA)
 go_wp2
 go_ret2
 exact ⟨by rw [u_ HE]; rfl, HA.b⟩
theorem oid_none (w : World) (S : Nat → Prop) (cs : List Value) (v : DV) (hRd : Rdy w) (hv : ValAt S w cs v) (hw : weight v ≤ 1000000) (hc : v.cls = 0) (ht : v.tag = 6) (hr : rightV v = true) (hg : oidG v.bytes = none) :
  Calls Tryz.prog 11 #[.agg cs.toArray] w fun e w' => e = .returned (.tuple #[.string (st ((oidT v).getD [])), .bool (oidT v).isSome]) ∧ Below w.heap.size w w' := by
 obtain ⟨_, hoid⟩ := right_oid hr hc ht
 have HE : Hid (oidT v = (oidG v.bytes).map oidTextG) := by show _ = _; unfold oidT; rw [if_pos ⟨hc, ht, hr⟩]
 have hlb : v.bytes.length ≤ 1000000 := by obtain ⟨_, _, _, b, _⟩ := v; simp only [weight] at hw; simp only [DV.bytes]; omega
 obtain ⟨b, hb0⟩ := exq v.bytes
 rw [hb0] at HE hoid hlb hg
 obtain ⟨s1, c1, s2, c2, rfl⟩ := hv.form
 obtain ⟨kc, kt, km, kl, kk, hkc, hkt, hkm, hkl, hkk⟩ := ex5 v
 rw [hkc, hkt, hkm, hkl, hkk] at hv ⊢
 obtain rfl : kc = 0 := hkc.symm.trans hc
 obtain rfl : kt = 6 := hkt.symm.trans ht
 have Hr := h_ hr
 have HBy : Hid (∀ wr : World, Below w.heap.size w wr → BytesAt wr (.slice s1 kl c1) b) := fun wr hb => by
  obtain ⟨n, h⟩ := hv.below hb
  cases n with
  | zero => exact h.elim
  | succ n =>
   obtain ⟨xb, sk, ck, e, h1, _⟩ := h
   simp only [dcells, List.cons.injEq] at e
   rw [e.2.2.2.1, ← hb0]
   exact h1
 clear hkc hkt hkm hkk hc ht hr
 obtain ⟨w1, X, hw1, eX, hA⟩ := blkN (Below.refl w.heap.size w) #[.int .i64 0, .int .i64 6, .bool km, .slice s1 kl c1, .slice s2 kk c2] 25
 obtain ⟨k0, k1, k2, k3, k4⟩ := five_at hA
 have HA := h_ hA
 have hT := hRd.tabs
 have HT := h_ hT
 have HV := h_ hv
 have Hw := h_ hw
 have HI : Hid (∀ (wr : World) (g : Int) (A B : Bool), ((0 : Int) == 0) = A → ((6 : Int) == g) = B → Calls Tryz.prog 36 #[.agg #[.int .i64 0, .int .i64 6, .bool km, .slice s1 kl c1, .slice s2 kk c2], .int .i64 g] wr fun e w' => e = .returned (.bool (A && B)) ∧ Below wr.heap.size wr w') := fun wr g A B h1 h2 => isuni_c wr 0 6 km s1 s2 kl kk c1 c2 g A B h1 h2
 have HRt : Hid (∀ wr : World, Below w.heap.size w wr → Calls Tryz.prog 37 #[.agg #[.int .i64 0, .int .i64 6, .bool km, .slice s1 kl c1, .slice s2 kk c2]] wr fun e w' => e = .returned (.bool (rightV v)) ∧ Below wr.heap.size wr w') := fun wr hb => isright_c wr S _ v (hT.below hb) (hv.below hb) hw
 unfold dcells
 have HRt2 : Hid (∀ wr : World, Below w.heap.size w wr → Calls Tryz.prog 37 #[.agg #[.int .i64 0, .int .i64 6, .bool km, .slice s1 kl c1, .slice s2 kk c2]] wr fun e w' => e = .returned (.bool true) ∧ Below wr.heap.size wr w') := fun wr hb => by
  have := u_ HRt wr hb
  rw [u_ Hr] at this
  exact this
 clear HRt
 have HIu : Hid (Calls Tryz.prog 36 #[.agg #[.int .i64 0, .int .i64 6, .bool km, .slice s1 kl c1, .slice s2 kk c2], .int .i64 6] w1 fun e w' => e = .returned (.bool true) ∧ Below w1.heap.size w1 w') := u_ HI w1 6 true true rfl rfl
 have HGr : Hid (∀ wr : World, Below w.heap.size w wr → Calls Tryz.prog 38 #[.slice s1 kl c1] wr fun e w' => ∃ (v : Value) (ok : Bool), e = .returned (.tuple #[v, .bool ok]) ∧ ((∃ gs, oidG b = some gs ∧ gs ≠ [] ∧ ok = true ∧ RowN wr w' v gs) ∨ (oidG b = none ∧ ok = false ∧ v = .slice none 0 0)) ∧ Below wr.heap.size wr w') := fun wr hb => groupsof_c wr _ b (u_ HBy wr hb) hoid hlb
 have HRd : Hid (∀ wr : World, Below w.heap.size w wr → Rdy wr) := fun wr hb => hRd.below hb
 clear hA hv hw hT hoid hlb hb0 hkl hRd HI HT HV Hw HBy
 have HE2 : Hid (oidT v = none) := by show _ = _; rw [u_ HE, hg]; rfl
 have HG := h_ hg
 clear hg HE
 go_enter Tryz.func11, Tryz.ntmps11
 go_wp2_with fail
 refine HIu.mono ?_
 rintro e w2 ⟨rfl, hb⟩
 have HA := h_ (HA.call hb)
 clear hb k0 k1 k2 k3 k4
 obtain ⟨k0, k1, k2, k3, k4⟩ := five_at (u_ HA)
 go_wp2_with fail
 refine (u_ HRt2 w2 HA.b).mono ?_
 rintro e w4 ⟨rfl, hb⟩
 have HA := h_ (HA.call hb)
 clear hb k0 k1 k2 k3 k4
 obtain ⟨k0, k1, k2, k3, k4⟩ := five_at (u_ HA)
 go_wp2_with fail
 refine (u_ HGr w4 HA.b).mono ?_
 rintro e w5 ⟨vv, ok, rfl, hor, hb⟩
 rcases hor with ⟨gs, h1, _⟩ | ⟨_, rfl, rfl⟩
 ·rw [u_ HG] at h1; cases h1
 have HA := h_ (HA.call hb)
 clear hb k0 k1 k2 k3 k4
 obtain ⟨k0, k1, k2, k3, k4⟩ := five_at (u_ HA)
 go_wp2
 go_ret2
 exact ⟨by rw [u_ HE2]; rfl, HA.b⟩
theorem oid_some (w : World) (S : Nat → Prop) (cs : List Value) (v : DV) (hRd : Rdy w) (hv : ValAt S w cs v) (hw : weight v ≤ 1000000) (hc : v.cls = 0) (ht : v.tag = 6) (hr : rightV v = true) (g : Nat) (r : List Nat) (hg : oidG v.bytes = some (g :: r)) :
  Calls Tryz.prog 11 #[.agg cs.toArray] w fun e w' => e = .returned (.tuple #[.string (st ((oidT v).getD [])), .bool (oidT v).isSome]) ∧ Below w.heap.size w w' := by
 obtain ⟨_, hoid⟩ := right_oid hr hc ht
 have HE : Hid (oidT v = (oidG v.bytes).map oidTextG) := by show _ = _; unfold oidT; rw [if_pos ⟨hc, ht, hr⟩]
 have hlb : v.bytes.length ≤ 1000000 := by obtain ⟨_, _, _, b, _⟩ := v; simp only [weight] at hw; simp only [DV.bytes]; omega
 obtain ⟨b, hb0⟩ := exq v.bytes
 rw [hb0] at HE hoid hlb hg
 obtain ⟨s1, c1, s2, c2, rfl⟩ := hv.form
 obtain ⟨kc, kt, km, kl, kk, hkc, hkt, hkm, hkl, hkk⟩ := ex5 v
 rw [hkc, hkt, hkm, hkl, hkk] at hv ⊢
 obtain rfl : kc = 0 := hkc.symm.trans hc
 obtain rfl : kt = 6 := hkt.symm.trans ht
 have Hr := h_ hr
 have HBy : Hid (∀ wr : World, Below w.heap.size w wr → BytesAt wr (.slice s1 kl c1) b) := fun wr hb => by
  obtain ⟨n, h⟩ := hv.below hb
  cases n with
  | zero => exact h.elim
  | succ n =>
   obtain ⟨xb, sk, ck, e, h1, _⟩ := h
   simp only [dcells, List.cons.injEq] at e
   rw [e.2.2.2.1, ← hb0]
   exact h1
 clear hkc hkt hkm hkk hc ht hr
 obtain ⟨w1, X, hw1, eX, hA⟩ := blkN (Below.refl w.heap.size w) #[.int .i64 0, .int .i64 6, .bool km, .slice s1 kl c1, .slice s2 kk c2] 25
 obtain ⟨k0, k1, k2, k3, k4⟩ := five_at hA
 have HA := h_ hA
 have hT := hRd.tabs
 have HT := h_ hT
 have HV := h_ hv
 have Hw := h_ hw
 have HI : Hid (∀ (wr : World) (g : Int) (A B : Bool), ((0 : Int) == 0) = A → ((6 : Int) == g) = B → Calls Tryz.prog 36 #[.agg #[.int .i64 0, .int .i64 6, .bool km, .slice s1 kl c1, .slice s2 kk c2], .int .i64 g] wr fun e w' => e = .returned (.bool (A && B)) ∧ Below wr.heap.size wr w') := fun wr g A B h1 h2 => isuni_c wr 0 6 km s1 s2 kl kk c1 c2 g A B h1 h2
 have HRt : Hid (∀ wr : World, Below w.heap.size w wr → Calls Tryz.prog 37 #[.agg #[.int .i64 0, .int .i64 6, .bool km, .slice s1 kl c1, .slice s2 kk c2]] wr fun e w' => e = .returned (.bool (rightV v)) ∧ Below wr.heap.size wr w') := fun wr hb => isright_c wr S _ v (hT.below hb) (hv.below hb) hw
 unfold dcells
 have HRt2 : Hid (∀ wr : World, Below w.heap.size w wr → Calls Tryz.prog 37 #[.agg #[.int .i64 0, .int .i64 6, .bool km, .slice s1 kl c1, .slice s2 kk c2]] wr fun e w' => e = .returned (.bool true) ∧ Below wr.heap.size wr w') := fun wr hb => by
  have := u_ HRt wr hb
  rw [u_ Hr] at this
  exact this
 clear HRt
 have HIu : Hid (Calls Tryz.prog 36 #[.agg #[.int .i64 0, .int .i64 6, .bool km, .slice s1 kl c1, .slice s2 kk c2], .int .i64 6] w1 fun e w' => e = .returned (.bool true) ∧ Below w1.heap.size w1 w') := u_ HI w1 6 true true rfl rfl
 have HGr : Hid (∀ wr : World, Below w.heap.size w wr → Calls Tryz.prog 38 #[.slice s1 kl c1] wr fun e w' => ∃ (v : Value) (ok : Bool), e = .returned (.tuple #[v, .bool ok]) ∧ ((∃ gs, oidG b = some gs ∧ gs ≠ [] ∧ ok = true ∧ RowN wr w' v gs) ∨ (oidG b = none ∧ ok = false ∧ v = .slice none 0 0)) ∧ Below wr.heap.size wr w') := fun wr hb => groupsof_c wr _ b (u_ HBy wr hb) hoid hlb
 have HRd : Hid (∀ wr : World, Below w.heap.size w wr → Rdy wr) := fun wr hb => hRd.below hb
 clear hA hv hw hT hoid hlb hb0 hkl hRd HI HT HV Hw HBy
 have HE2 : Hid (oidT v = some (oidTextG (g :: r))) := by show _ = _; rw [u_ HE, hg]; rfl
 have hlt : (∀ x ∈ g :: r, x < 1099511627776) ∧ (g :: r).length ≤ 19 := by
  unfold oidG at hg
  cases hgf : gFold b with
  | none => rw [hgf] at hg; cases hg
  | some stt =>
   rw [hgf] at hg
   simp only at hg
   split at hg
   ·rename_i h19
    injection hg with hg
    have := (gFold_lt b (gs := stt.1) (n := stt.2) hgf).2
    rw [hg] at this h19
    exact ⟨this, h19⟩
   ·cases hg
 have HG := h_ hg
 have Hlt := h_ hlt.1
 have hg40 : g < 1099511627776 := hlt.1 g List.mem_cons_self
 have hr19 : r.length ≤ 18 := by have := hlt.2; simp at this; omega
 obtain ⟨a, ha⟩ := exq (g / 40)
 obtain ⟨F, hF⟩ := exq (min a 2)
 obtain ⟨D, hD⟩ := exq (g - 40 * F)
 have ea : (g : Int) / 40 = (a : Int) := by omega
 have eF : min (a : Int) 2 = (F : Int) := by omega
 have eD : (g : Int) - (40 : Int) * (F : Int) = (D : Int) := by omega
 obtain ⟨tF, htF⟩ := exq (decDigits F)
 obtain ⟨tD, htD⟩ := exq (decDigits D)
 obtain ⟨t1, ht1⟩ := exq (tF ++ [46] : Bs)
 obtain ⟨t2, ht2⟩ := exq (t1 ++ tD : Bs)
 have ltF : tF.length ≤ 13 := by rw [← htF]; exact dec_len (by omega)
 have ltD : tD.length ≤ 13 := by rw [← htD]; exact dec_len (by omega)
 have lt1 : t1.length ≤ 14 := by rw [← ht1, List.length_append, List.length_singleton]; omega
 have lt2 : t2.length ≤ 27 := by rw [← ht2, List.length_append]; omega
 have cc1 := cat_str tF [46] t1 ht1 (by simp; omega)
 have cc2 := cat_str t1 tD t2 ht2 (by omega)
 have Htx : Hid (oidTextG (g :: r) = t2 ++ restT r) := by
  show _ = _
  show decDigits (min (g / 40) 2) ++ 46 :: decDigits (g - 40 * min (g / 40) 2) ++ restT r = t2 ++ restT r
  rw [ha, hF, hD, htF, htD, ← ht2, ← ht1]
  simp
 have HtF := h_ htF
 have HtD := h_ htD
 have hF2 : F ≤ 2 := by omega
 have hD2 : D < 1099511627776 := by omega
 clear hg HE hlt hF hD ha htF htD ht1 ht2
 go_enter Tryz.func11, Tryz.ntmps11
 go_wp2_with fail
 refine HIu.mono ?_
 rintro e w2 ⟨rfl, hb⟩
 have HA := h_ (HA.call hb)
 clear hb k0 k1 k2 k3 k4
 obtain ⟨k0, k1, k2, k3, k4⟩ := five_at (u_ HA)
 go_wp2_with fail
 refine (u_ HRt2 w2 HA.b).mono ?_
 rintro e w4 ⟨rfl, hb⟩
 have HA := h_ (HA.call hb)
 clear hb k0 k1 k2 k3 k4
 obtain ⟨k0, k1, k2, k3, k4⟩ := five_at (u_ HA)
 go_wp2_with fail
 refine (u_ HGr w4 HA.b).mono ?_
 rintro e w5 ⟨vv, ok, rfl, hor, hb⟩
 rcases hor with ⟨gs, h1, _, rfl, hrow⟩ | ⟨h1, _⟩
 case inr => rw [u_ HG] at h1; cases h1
 rw [u_ HG] at h1
 injection h1 with h1
 subst h1
 obtain ⟨sv, cv, rfl⟩ := hrow.form
 have HA := h_ (HA.call hb)
 clear hb k0 k1 k2 k3 k4
 obtain ⟨k0, k1, k2, k3, k4⟩ := five_at (u_ HA)
 rw [List.length_cons]
 obtain ⟨M, hM⟩ := exq r.length
 rw [hM]
 have hvals : ValsAt w5 (.slice sv (M + 1) cv) ((g :: r).map nv) := by
  have := OwnV.vals hrow.own
  rw [List.length_cons, hM] at this
  exact this
 have HVl := h_ hvals
 obtain ⟨ba, oa, hsv, hcell0⟩ := ValsAt.int hvals 0 (by simp)
 subst hsv
 have hcell : w5.cell? ⟨ba, oa, none⟩ = some (.int .i64 (g : Int)) := by have := hcell0; rw [Nat.add_zero] at this; exact this
 have b0 : (0 : Int) < ((M + 1 : Nat) : Int) := by omega
 obtain ⟨y, hy⟩ : ∃ y, y = Value.slice (cutAt (some ⟨ba, oa, none⟩) cv 1) M (cv - 1) := ⟨_, rfl⟩
 have hsl : ∀ W, (Instr.sliceAt 81 (.slice (some ⟨ba, oa, none⟩) (M + 1) cv) (some (.int .i64 1)) none none).run Tryz.prog W = .ok y W := fun W => by
  rw [hy]
  exact slice_ints (some ⟨ba, oa, none⟩) (M + 1) cv 1 (by omega) W
 have HYv : Hid (ValsAt w5 y (r.map nv)) := by
  have h1 := vals_drop (l := (g :: r).map nv) (c := cv) (sp := some ⟨ba, oa, none⟩) (by have h2 := hvals; rw [← hM] at h2; simpa using h2) 1 (by simp)
  rw [hy]
  simp only [List.map_cons, List.drop_succ_cons, List.drop_zero, List.length_cons, List.length_map, Nat.add_sub_cancel, hM] at h1
  exact h1
 have HIs : Hid (∀ wr : World, Calls Tryz.prog 39 #[.int .i64 (F : Int)] wr fun e w' => e = .returned (.string (st tF)) ∧ w' = wr) := fun wr => by rw [← u_ HtF]; exact itoa_small_c wr F (by omega)
 have HIb : Hid (Calls Tryz.prog 39 #[.int .i64 (D : Int)] w5.drew fun e w' => e = .returned (.string (st tD)) ∧ Below w5.heap.size w5.drew w') := by
  show Calls _ _ _ _ _
  rw [← u_ HtD]
  exact itoa_c w5.drew (u_ HRd _ HA.b.drew) D (by omega)
 have HH : Hid (∀ w', Below w5.heap.size w5.drew w' → w'.cell? ⟨ba, oa, none⟩ = some (.int .i64 (g : Int))) := fun w' hb => by
  have h1 : Below w5.heap.size w5 w' := (Below.refl _ _).drew.trans hb
  rw [h1.cell (p := ⟨ba, oa, none⟩) (World.block_lt_of_cell? w5 _ hcell)]
  exact hcell
 have HM := h_ hM
 obtain ⟨ys, yn, yc, hyf⟩ : ∃ ys yn yc, y = .slice ys yn yc := ⟨_, _, _, hy⟩
 have hyn : yn = M := by rw [hy] at hyf; simp only [Value.slice.injEq] at hyf; exact hyf.2.1.symm
 subst hyn
 subst hyf
 have uD : IntKind.i64.wrap (D : Int) = (D : Int) := IntWalk.i64_in _ (by omega)
 have uF : IntKind.i64.wrap ((40 : Int) * (F : Int)) = (40 : Int) * (F : Int) := IntWalk.i64_in _ (by omega)
 clear hvals hrow hcell0 hy hM HG HRt2 HIu HGr k0 k1 k2 k3 k4
 go_wp2
 go_region_held3 (fun w' => w'.cell? ⟨ba, oa, none⟩ = some (.int .i64 (g : Int))) (go_keep)
  ((first
    | (go_at_call_of 39 (Value.int IntKind.i64 (F : Int))
       refine (u_ HIs _).mono ?_
       rintro e w' ⟨rfl, hw⟩
       obtain rfl := hw)
    | (go_at_call_of 39 (Value.int IntKind.i64 (D : Int))
       refine HIb.mono ?_
       rintro e w6 ⟨rfl, hb6⟩
       have Hb6 := h_ hb6
       have hcell := u_ HH w6 hb6
       clear hb6)))
 clear hcell cc1 cc2 uD uF HIs HIb HH
 have HB6 : Hid (Below w.heap.size w w6) := HA.b.trans ((((Below.refl w5.heap.size w5).drew).trans (u_ Hb6)).mono HA.b.size)
 have HY6 : Hid (∀ wr : World, Below w6.heap.size w6 wr → ∀ k, k < r.length → ∃ ba oa, ys = some ⟨ba, oa, none⟩ ∧ wr.cell? ⟨ba, oa + k, none⟩ = some (.int .i64 (r.getD k 0 : Int))) := fun wr hb k hk => by
  have h1 : Below w5.heap.size w5 w6 := (Below.refl _ _).drew.trans (u_ Hb6)
  exact ValsAt.int ((HYv.below h1).below hb) k hk
 clear HYv Hb6 HVl
 go_wp2
 clear hsl
 go_loopw [7, 45] (fun tt ii wr => ∃ (k : Nat) (tx : Bs), k ≤ yn ∧ tt = .string (st tx) ∧ ii = .int .i64 (k : Int) ∧ Hid (tx = t2 ++ restT (r.take k)) ∧ Hid (Below w.heap.size w wr) ∧ Hid (Below w6.heap.size w6 wr)) (fun _ ii _ => yn - (intOf ii).toNat)
 case atStart => exact ⟨0, t2, by omega, rfl, rfl, by show _ = _; simp [restT], HB6, Below.refl _ _⟩
 case round =>
  obtain ⟨k, tx, hk, rfl, rfl, Htk, HBk, HB6k⟩ := hrel
  by_cases hlt : k < yn
  ·obtain ⟨f1, f1n⟩ := ltVV k yn
   have k0 : (0 : Int) ≤ (k : Int) := by omega
   have k1 : (k : Int) < (yn : Int) := by omega
   have hkr : k < r.length := by have := u_ HM; omega
   obtain ⟨bb, ob, rfl, hc⟩ := u_ HY6 wr (u_ HB6k) k hkr
   obtain ⟨n, hn⟩ := exq (r.getD k 0)
   rw [hn] at hc
   have hn40 : n < 1099511627776 := by
    refine u_ Hlt n (List.mem_cons_of_mem _ ?_)
    rw [← hn, List.getD_eq_getElem?_getD, List.getElem?_eq_getElem hkr]
    exact List.getElem_mem hkr
   obtain ⟨tn, htn⟩ := exq (decDigits n)
   obtain ⟨t3, ht3⟩ := exq ([46] ++ tn : Bs)
   obtain ⟨t4, ht4⟩ := exq (tx ++ t3 : Bs)
   have ltn : tn.length ≤ 13 := by rw [← htn]; exact dec_len hn40
   have lt3 : t3.length ≤ 14 := by rw [← ht3, List.length_append, List.length_singleton]; omega
   have ltx : tx.length ≤ 1000 := by
    rw [u_ Htk, List.length_append]
    have h1 := restT_len (r.take k) (fun x hx => u_ Hlt x (List.mem_cons_of_mem _ (List.mem_of_mem_take hx)))
    have h2 : (r.take k).length ≤ 18 := by rw [List.length_take]; omega
    omega
   have cc3 := cat_str [46] tn t3 ht3 (by simp; omega)
   have cc4 := cat_str tx t3 t4 ht4 (by omega)
   have Ht4 : Hid (t4 = t2 ++ restT (r.take (k + 1))) := by
    show _ = _
    rw [take_snocN hkr, restT_snoc, hn, htn, ← ht4, ← ht3, u_ Htk]
    simp
   have HIc : Hid (Calls Tryz.prog 39 #[.int .i64 (n : Int)] wr fun e w' => e = .returned (.string (st tn)) ∧ Below wr.heap.size wr w') := by
    show Calls _ _ _ _ _
    rw [← htn]
    exact itoa_c wr (u_ HRd _ (u_ HBk)) n (by omega)
   clear hn htn ht3 ht4 Htk
   go_wp2_with fail
   refine HIc.mono ?_
   rintro e w7 ⟨rfl, hb7⟩
   have HB7 := h_ (HBk.trans (hb7.mono HBk.size))
   have HB8 := h_ (HB6k.trans (hb7.mono HB6k.size))
   clear hb7 HIc HBk HB6k
   go_wp2
   go_roundw
   case rel =>
    first
     | exact ⟨k + 1, t4, by omega, rfl, by go_num, Ht4, HB7, HB8⟩
     | ((repeat apply Exists.intro); exact ⟨⟨k + 1, t4, by omega, rfl, by go_num, Ht4, HB7, HB8⟩, rfl⟩)
   case measure => simp [intOf]; omega
  ·obtain ⟨f1, f1n⟩ := ltVVf k yn
   have HF : Hid (oidT v = some tx) := by
    show _ = _
    rw [u_ HE2, u_ Htx, u_ Htk, List.take_of_length_le (by have := u_ HM; omega)]
   clear Htk
   go_wp2
   go_ret2
   exact ⟨by rw [u_ HF]; rfl, u_ HBk⟩
theorem oid_c (w : World) (S : Nat → Prop) (cs : List Value) (v : DV) (hRd : Rdy w) (hv : ValAt S w cs v) (hw : weight v ≤ 1000000)  :
  Calls Tryz.prog 11 #[.agg cs.toArray] w fun e w' => e = .returned (.tuple #[.string (st ((oidT v).getD [])), .bool (oidT v).isSome]) ∧ Below w.heap.size w w' := by
 by_cases h : v.cls = 0 ∧ v.tag = 6
 ·obtain ⟨hc, ht⟩ := h
  cases hr : rightV v with
  | false => exact oid_bad w S cs v hRd hv hw hc ht hr
  | true =>
   obtain ⟨_, hoid⟩ := right_oid hr hc ht
   cases hg : oidG v.bytes with
   | none => exact oid_none w S cs v hRd hv hw hc ht hr hg
   | some gs =>
    cases gs with
    | nil =>
     unfold oidG at hg
     cases hgf : gFold v.bytes with
     | none => rw [hgf] at hg; cases hg
     | some stt =>
      rw [hgf] at hg
      simp only at hg
      split at hg
      ·injection hg with hg
       exact absurd hg (oidG_end hoid (gs := stt.1) (n := stt.2) hgf).2
      ·cases hg
    | cons g r => exact oid_some w S cs v hRd hv hw hc ht hr g r hg
 ·exact oid_other w S cs v hRd hv hw h
end N
end Go.Proofs.YtcofnockikninaaGreatDoor
