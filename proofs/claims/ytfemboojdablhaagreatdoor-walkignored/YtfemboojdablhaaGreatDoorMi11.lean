/- Merged: GbName, Cut, Ref, Texts, Index. -/
import Derived.Ground.GgwProg
import Derived.Shelf.GgClosure.StringsIndexFunc
import Derived.Shelf.GgClosure.StringsIndexFuncTop
import Derived.Shelf.GgClosure.StringsRunes
import Derived.Shelf.LaysM
import Derived.Shelf.Small.Strs
import Derived.Shelf.Small.Utf8
import Derived.Shelf.Small.Wraps
import Derived.Shelf.Strings.AsciiSet
import Derived.Shelf.Strings.Cut
import Derived.Shelf.Strings.FuncGrows
import Derived.Shelf.Strings.Prefix
import Derived.Shelf.Strings.Runes
import Derived.Shelf.Strings.Search1
import Derived.Shelf.Strings.Search2
import Derived.Shelf.Strings.Search3
import Derived.Shelf.Strings.Shaped
import Derived.Shelf.Strings.Trim
import Derived.Shelf.Unicode.Decode
import Derived.Shelf.Unicode.DecodeAny
import Derived.Shelf.Unicode.DecodeLast
import Derived.Shelf.Unicode.DecodeSlow
import Derived.Test.YtfemboojdablhaaGreatDoorProg
import Derived.Test.YtfemboojdablhaaGreatDoorMi10
import Derived.Test.YtfemboojdablhaaGreatDoorMi09
import Derived.Laws.RangeAny
import Derived.WalkKit
import Derived.WalkSpells
import Derived.WalkLawsBesides
import Derived.Maps.AppendAt
import Derived.Outline
import Derived.BigQuiet
import Derived.Deep.QuietTactic
import Derived.Lib.Strings
import Derived.Lib.Slices
import Derived.Lib.Walk
import Derived.Lib.Bytealg
namespace Go.Proofs
open Go.Shelf
def Tryz.lays162_ren : Go.Shelf.Ren := ⟨fun | 162 => 131 | 232 => 159 | 227 => 160 | 234 => 161 | 236 => 162 | 228 => 195 | 271 => 196 | 151 => 197 | 120 => 230 | 197 => 183 | 152 => 231 | 260 => 220 | 137 => 258 | 119 => 260 | 224 => 254 | 225 => 253 | 217 => 252 | 266 => 275 | n => n, fun | 9 => 9 | 4 => 4 | 3 => 3 | 5 => 5 | 117 => 223 | 116 => 222 | 0 => 0 | 124 => 226 | 21 => 21 | 105 => 264 | 46 => 260 | 119 => 345 | 139 => 348 | 138 => 347 | n => n, fun | 3 => 12 | 4 => 13 | n => n⟩
theorem Tryz.lays162 : Go.Proofs.Lays.n162 Tryz.prog Tryz.lays162_ren := {
  mixed := by kernel_rfl
  f119 := Tryz.func260.trans (congrArg some (by kernel_rfl))
  f120 := Tryz.func230.trans (congrArg some (by kernel_rfl))
  f137 := Tryz.func258.trans (congrArg some (by kernel_rfl))
  f151 := Tryz.func197.trans (congrArg some (by kernel_rfl))
  f152 := Tryz.func231.trans (congrArg some (by kernel_rfl))
  f162 := Tryz.func131.trans (congrArg some (by kernel_rfl))
  f197 := Tryz.func183.trans (congrArg some (by kernel_rfl))
  f217 := Tryz.func252.trans (congrArg some (by kernel_rfl))
  f224 := Tryz.func254.trans (congrArg some (by kernel_rfl))
  f225 := Tryz.func253.trans (congrArg some (by kernel_rfl))
  f227 := Tryz.func160.trans (congrArg some (by kernel_rfl))
  f228 := Tryz.func195.trans (congrArg some (by kernel_rfl))
  f232 := Tryz.func159.trans (congrArg some (by kernel_rfl))
  f234 := Tryz.func161.trans (congrArg some (by kernel_rfl))
  f236 := Tryz.func162.trans (congrArg some (by kernel_rfl))
  f260 := Tryz.func220.trans (congrArg some (by kernel_rfl))
  f266 := Tryz.func275.trans (congrArg some (by kernel_rfl))
  f271 := Tryz.func196.trans (congrArg some (by kernel_rfl))
  t0 := Tryz.underlying0
  a0 := Tryz.isAgg0
  z0 := Tryz.sizeOf0
  v0 := Tryz.zeroValue0
  t3 := Tryz.underlying3
  a3 := Tryz.isAgg3
  z3 := Tryz.sizeOf3
  v3 := Tryz.zeroValue3
  t4 := Tryz.underlying4
  a4 := Tryz.isAgg4
  z4 := Tryz.sizeOf4
  v4 := Tryz.zeroValue4
  t5 := Tryz.underlying5
  a5 := Tryz.isAgg5
  z5 := Tryz.sizeOf5
  v5 := Tryz.zeroValue5
  t9 := Tryz.underlying9
  a9 := Tryz.isAgg9
  z9 := Tryz.sizeOf9
  v9 := Tryz.zeroValue9
  t21 := Tryz.underlying21
  a21 := Tryz.isAgg21
  z21 := Tryz.sizeOf21
  v21 := Tryz.zeroValue21
  t46 := Tryz.underlying260
  a46 := Tryz.isAgg260
  z46 := Tryz.sizeOf260
  v46 := Tryz.zeroValue260
  t105 := Tryz.underlying264
  a105 := Tryz.isAgg264
  z105 := Tryz.sizeOf264
  v105 := Tryz.zeroValue264
  t116 := Tryz.underlying222
  a116 := Tryz.isAgg222
  z116 := Tryz.sizeOf222
  t117 := Tryz.underlying223
  a117 := Tryz.isAgg223
  z117 := Tryz.sizeOf223
  v117 := Tryz.zeroValue223
  t119 := Tryz.underlying345
  a119 := Tryz.isAgg345
  z119 := Tryz.sizeOf345
  t124 := Tryz.underlying226
  a124 := Tryz.isAgg226
  z124 := Tryz.sizeOf226
  v124 := Tryz.zeroValue226
  t138 := Tryz.underlying347
  a138 := Tryz.isAgg347
  z138 := Tryz.sizeOf347
  v138 := Tryz.zeroValue347
  t139 := Tryz.underlying348
  a139 := Tryz.isAgg348
  z139 := Tryz.sizeOf348
  v139 := Tryz.zeroValue348
  g3 := by kernel_rfl
  g4 := by kernel_rfl }
open Go.RowKit in
theorem Tryz.strings_TrimRight_one (s : ByteArray) (c : UInt8) (hc : c.toNat < 128) (w : World) (hs : s.size ≤ 9223372036854775807) :
    Calls Tryz.prog 131 #[.string s, .string ⟨#[c]⟩] w fun e w' => e = .returned (.string ⟨(Lib.trimRightB s.data.toList c).toArray⟩) ∧ w' = w := Any.strings_TrimRight_one Tryz.lays162 s c hc w hs
def Tryz.lays137_ren : Go.Shelf.Ren := ⟨fun | 137 => 258 | 217 => 252 | 266 => 275 | n => n, fun | 9 => 9 | 5 => 5 | 3 => 3 | n => n, fun | n => n⟩
theorem Tryz.lays137 : Go.Proofs.Lays.n137 Tryz.prog Tryz.lays137_ren := {
  mixed := by kernel_rfl
  f137 := Tryz.func258.trans (congrArg some (by kernel_rfl))
  f217 := Tryz.func252.trans (congrArg some (by kernel_rfl))
  f266 := Tryz.func275.trans (congrArg some (by kernel_rfl))
  t3 := Tryz.underlying3
  a3 := Tryz.isAgg3
  z3 := Tryz.sizeOf3
  v3 := Tryz.zeroValue3
  t5 := Tryz.underlying5
  a5 := Tryz.isAgg5
  z5 := Tryz.sizeOf5
  v5 := Tryz.zeroValue5
  t9 := Tryz.underlying9
  a9 := Tryz.isAgg9
  z9 := Tryz.sizeOf9
  v9 := Tryz.zeroValue9 }
open Go.RowKit in
theorem Tryz.strings_IndexByte (s : ByteArray) (c : Int) (w : World) :
    Calls Tryz.prog 258 #[.string s, .int .u8 c] w fun e w' => e = .returned (.int .i64 (Lib.indexByte s.data.toList c.toNat.toUInt8)) ∧ w' = w := Any.strings_IndexByte Tryz.lays137 s c w
def Tryz.lays103_ren : Go.Shelf.Ren := ⟨fun | 103 => 149 | 210 => 186 | 206 => 185 | n => n, fun | 9 => 9 | 4 => 4 | 24 => 118 | 3 => 3 | n => n, fun | n => n⟩
theorem Tryz.lays103 : Go.Proofs.Lays.n103 Tryz.prog Tryz.lays103_ren := {
  mixed := by kernel_rfl
  f103 := Tryz.func149.trans (congrArg some (by kernel_rfl))
  f206 := Tryz.func185.trans (congrArg some (by kernel_rfl))
  f210 := Tryz.func186.trans (congrArg some (by kernel_rfl))
  t3 := Tryz.underlying3
  a3 := Tryz.isAgg3
  z3 := Tryz.sizeOf3
  v3 := Tryz.zeroValue3
  t4 := Tryz.underlying4
  a4 := Tryz.isAgg4
  z4 := Tryz.sizeOf4
  v4 := Tryz.zeroValue4
  t9 := Tryz.underlying9
  a9 := Tryz.isAgg9
  z9 := Tryz.sizeOf9
  v9 := Tryz.zeroValue9
  t24 := Tryz.underlying118
  a24 := Tryz.isAgg118
  z24 := Tryz.sizeOf118
  v24 := Tryz.zeroValue118 }
open Go.RowKit in
theorem Tryz.strings_CutPrefix (s p : ByteArray) (w : World) :
    Calls Tryz.prog 149 #[.string s, .string p] w fun e w' => e = .returned (.tuple #[.string ⟨(Lib.trimPrefix s.data.toList p.data.toList).toArray⟩, .bool (Lib.hasPrefix s.data.toList p.data.toList)]) ∧ w' = w := Any.strings_CutPrefix Tryz.lays103 s p w
def Tryz.lays104_ren : Go.Shelf.Ren := ⟨fun | 104 => 150 | 211 => 187 | 207 => 138 | n => n, fun | 9 => 9 | 4 => 4 | 24 => 118 | 3 => 3 | n => n, fun | n => n⟩
theorem Tryz.lays104 : Go.Proofs.Lays.n104 Tryz.prog Tryz.lays104_ren := {
  mixed := by kernel_rfl
  f104 := Tryz.func150.trans (congrArg some (by kernel_rfl))
  f207 := Tryz.func138.trans (congrArg some (by kernel_rfl))
  f211 := Tryz.func187.trans (congrArg some (by kernel_rfl))
  t3 := Tryz.underlying3
  a3 := Tryz.isAgg3
  z3 := Tryz.sizeOf3
  v3 := Tryz.zeroValue3
  t4 := Tryz.underlying4
  a4 := Tryz.isAgg4
  z4 := Tryz.sizeOf4
  v4 := Tryz.zeroValue4
  t9 := Tryz.underlying9
  a9 := Tryz.isAgg9
  z9 := Tryz.sizeOf9
  v9 := Tryz.zeroValue9
  t24 := Tryz.underlying118
  a24 := Tryz.isAgg118
  z24 := Tryz.sizeOf118
  v24 := Tryz.zeroValue118 }
open Go.RowKit in
theorem Tryz.strings_CutSuffix (s p : ByteArray) (w : World) (hs : s.size ≤ 9223372036854775807) :
    Calls Tryz.prog 150 #[.string s, .string p] w fun e w' => e = .returned (.tuple #[.string ⟨(Lib.trimSuffix s.data.toList p.data.toList).toArray⟩, .bool (Lib.hasSuffix s.data.toList p.data.toList)]) ∧ w' = w := Any.strings_CutSuffix Tryz.lays104 s p w hs
def Tryz.lays144_ren : Go.Shelf.Ren := ⟨fun | 144 => 151 | 143 => 184 | 219 => 221 | 217 => 252 | 225 => 253 | 224 => 254 | 267 => 255 | 266 => 275 | 314 => 276 | n => n, fun | 9 => 9 | 4 => 4 | 3 => 3 | 5 => 5 | 46 => 260 | 146 => 357 | 51 => 258 | n => n, fun | 1 => 9 | n => n⟩
theorem Tryz.lays144 : Go.Proofs.Lays.n144 Tryz.prog Tryz.lays144_ren := {
  mixed := by kernel_rfl
  f143 := Tryz.func184.trans (congrArg some (by kernel_rfl))
  f144 := Tryz.func151.trans (congrArg some (by kernel_rfl))
  f217 := Tryz.func252.trans (congrArg some (by kernel_rfl))
  f219 := Tryz.func221.trans (congrArg some (by kernel_rfl))
  f224 := Tryz.func254.trans (congrArg some (by kernel_rfl))
  f225 := Tryz.func253.trans (congrArg some (by kernel_rfl))
  f266 := Tryz.func275.trans (congrArg some (by kernel_rfl))
  f267 := Tryz.func255.trans (congrArg some (by kernel_rfl))
  f314 := Tryz.func276.trans (congrArg some (by kernel_rfl))
  t3 := Tryz.underlying3
  a3 := Tryz.isAgg3
  z3 := Tryz.sizeOf3
  v3 := Tryz.zeroValue3
  t4 := Tryz.underlying4
  a4 := Tryz.isAgg4
  z4 := Tryz.sizeOf4
  v4 := Tryz.zeroValue4
  t5 := Tryz.underlying5
  a5 := Tryz.isAgg5
  z5 := Tryz.sizeOf5
  v5 := Tryz.zeroValue5
  t9 := Tryz.underlying9
  a9 := Tryz.isAgg9
  z9 := Tryz.sizeOf9
  v9 := Tryz.zeroValue9
  t46 := Tryz.underlying260
  a46 := Tryz.isAgg260
  z46 := Tryz.sizeOf260
  v46 := Tryz.zeroValue260
  t51 := Tryz.underlying258
  a51 := Tryz.isAgg258
  z51 := Tryz.sizeOf258
  v51 := Tryz.zeroValue258
  t146 := Tryz.underlying357
  a146 := Tryz.isAgg357
  z146 := Tryz.sizeOf357
  v146 := Tryz.zeroValue357
  g1 := by kernel_rfl }
open Go.RowKit Go.Lib in
theorem Tryz.strings_Contains_one (s : ByteArray) (c : UInt8) (w : World) :
    Calls Tryz.prog 151 #[.string s, .string ⟨#[c]⟩] w fun e w' => e = .returned (.bool (decide (0 ≤ Lib.indexByte s.data.toList c))) ∧ w' = w := Any.strings_Contains_one Tryz.lays144 s c w
def Tryz.lays145_ren : Go.Shelf.Ren := ⟨fun | 145 => 297 | 220 => 308 | 219 => 221 | 217 => 252 | 225 => 253 | 224 => 254 | 267 => 255 | 266 => 275 | 314 => 276 | n => n, fun | 9 => 9 | 4 => 4 | 59 => 385 | 3 => 3 | 5 => 5 | 46 => 260 | 146 => 357 | 51 => 258 | n => n, fun | 1 => 9 | n => n⟩
theorem Tryz.lays145 : Go.Proofs.Lays.n145 Tryz.prog Tryz.lays145_ren := {
  mixed := by kernel_rfl
  f145 := Tryz.func297.trans (congrArg some (by kernel_rfl))
  f217 := Tryz.func252.trans (congrArg some (by kernel_rfl))
  f219 := Tryz.func221.trans (congrArg some (by kernel_rfl))
  f220 := Tryz.func308.trans (congrArg some (by kernel_rfl))
  f224 := Tryz.func254.trans (congrArg some (by kernel_rfl))
  f225 := Tryz.func253.trans (congrArg some (by kernel_rfl))
  f266 := Tryz.func275.trans (congrArg some (by kernel_rfl))
  f267 := Tryz.func255.trans (congrArg some (by kernel_rfl))
  f314 := Tryz.func276.trans (congrArg some (by kernel_rfl))
  t3 := Tryz.underlying3
  a3 := Tryz.isAgg3
  z3 := Tryz.sizeOf3
  v3 := Tryz.zeroValue3
  t4 := Tryz.underlying4
  a4 := Tryz.isAgg4
  z4 := Tryz.sizeOf4
  v4 := Tryz.zeroValue4
  t5 := Tryz.underlying5
  a5 := Tryz.isAgg5
  z5 := Tryz.sizeOf5
  v5 := Tryz.zeroValue5
  t9 := Tryz.underlying9
  a9 := Tryz.isAgg9
  z9 := Tryz.sizeOf9
  v9 := Tryz.zeroValue9
  t46 := Tryz.underlying260
  a46 := Tryz.isAgg260
  z46 := Tryz.sizeOf260
  v46 := Tryz.zeroValue260
  t51 := Tryz.underlying258
  a51 := Tryz.isAgg258
  z51 := Tryz.sizeOf258
  v51 := Tryz.zeroValue258
  t59 := Tryz.underlying385
  a59 := Tryz.isAgg385
  z59 := Tryz.sizeOf385
  v59 := Tryz.zeroValue385
  t146 := Tryz.underlying357
  a146 := Tryz.isAgg357
  z146 := Tryz.sizeOf357
  v146 := Tryz.zeroValue357
  g1 := by kernel_rfl }
open Go.RowKit Go.Lib in
theorem Tryz.strings_Cut (s sep : ByteArray) (m : Int) (w : World) (hs : s.size < 4294967281) (hm : w.cell? ⟨9, 0, none⟩ = some (.int .i64 m)) :
    Calls Tryz.prog 297 #[.string s, .string sep] w fun e w' => e = .returned (.tuple #[.string ⟨(Lib.cut s.data.toList sep.data.toList).1.toArray⟩, .string ⟨(Lib.cut s.data.toList sep.data.toList).2.1.toArray⟩, .bool (Lib.cut s.data.toList sep.data.toList).2.2]) ∧ ∃ n, w' = w.drewN n := Any.strings_Cut Tryz.lays145 s sep m w hs hm
def Tryz.laysGw15_ren : Go.Shelf.Ren := ⟨fun | 15 => 298 | 20 => 309 | n => n, fun | 9 => 9 | 23 => 351 | 3 => 3 | 4 => 4 | 0 => 0 | 21 => 21 | n => n, fun | n => n⟩
theorem Tryz.laysGw15 : Go.Proofs.LaysGw.n15 Tryz.prog Tryz.laysGw15_ren := {
  mixed := by kernel_rfl
  f15 := Tryz.func298.trans (congrArg some (by kernel_rfl))
  f20 := Tryz.func309.trans (congrArg some (by kernel_rfl))
  t0 := Tryz.underlying0
  a0 := Tryz.isAgg0
  z0 := Tryz.sizeOf0
  v0 := Tryz.zeroValue0
  i0 := by kernel_rfl
  t3 := Tryz.underlying3
  a3 := Tryz.isAgg3
  z3 := Tryz.sizeOf3
  v3 := Tryz.zeroValue3
  i3 := by kernel_rfl
  t4 := Tryz.underlying4
  a4 := Tryz.isAgg4
  z4 := Tryz.sizeOf4
  v4 := Tryz.zeroValue4
  i4 := by kernel_rfl
  t9 := Tryz.underlying9
  a9 := Tryz.isAgg9
  z9 := Tryz.sizeOf9
  v9 := Tryz.zeroValue9
  i9 := by kernel_rfl
  t21 := Tryz.underlying21
  a21 := Tryz.isAgg21
  z21 := Tryz.sizeOf21
  v21 := Tryz.zeroValue21
  i21 := by kernel_rfl
  t23 := Tryz.underlying351
  a23 := Tryz.isAgg351
  z23 := Tryz.sizeOf351
  v23 := Tryz.zeroValue351
  i23 := by kernel_rfl }
open Go.RowKit Go.Lib in
theorem Tryz.strings_IndexFunc (g : Nat) (lb : Array Value) (eg : ∀ args w, (callFunc g args).run Tryz.prog w = .ok (.enter g args) w) (p : Nat → Bool) (s : ByteArray) (w : World) (hp : PredAt Tryz.prog g lb encR p w) :
    Calls Tryz.prog 298 #[.string s, .func (.func g) #[] lb] w fun e w' => e = .returned (.int .i64 (Lib.idxFunc p true s)) ∧ Below w.heap.size w w' := Any.strings_IndexFunc Tryz.laysGw15 g lb eg p s w hp
def Tryz.lays99_ren : Go.Shelf.Ren := ⟨fun | 99 => 148 | 206 => 185 | n => n, fun | 9 => 9 | 4 => 4 | 3 => 3 | n => n, fun | n => n⟩
theorem Tryz.lays99 : Go.Proofs.Lays.n99 Tryz.prog Tryz.lays99_ren := {
  mixed := by kernel_rfl
  f99 := Tryz.func148.trans (congrArg some (by kernel_rfl))
  f206 := Tryz.func185.trans (congrArg some (by kernel_rfl))
  t3 := Tryz.underlying3
  a3 := Tryz.isAgg3
  z3 := Tryz.sizeOf3
  v3 := Tryz.zeroValue3
  t4 := Tryz.underlying4
  a4 := Tryz.isAgg4
  z4 := Tryz.sizeOf4
  v4 := Tryz.zeroValue4
  t9 := Tryz.underlying9
  a9 := Tryz.isAgg9
  z9 := Tryz.sizeOf9
  v9 := Tryz.zeroValue9 }
open Go.RowKit Go.Lib in
theorem Tryz.strings_HasPrefix (s p : ByteArray) (w : World) :
    Calls Tryz.prog 148 #[.string s, .string p] w fun e w' => e = .returned (.bool (Lib.hasPrefix s.data.toList p.data.toList)) ∧ w' = w := Any.strings_HasPrefix Tryz.lays99 s p w
def Tryz.lays101_ren : Go.Shelf.Ren := ⟨fun | 101 => 152 | 208 => 188 | 206 => 185 | n => n, fun | 9 => 9 | 4 => 4 | 3 => 3 | n => n, fun | n => n⟩
theorem Tryz.lays101 : Go.Proofs.Lays.n101 Tryz.prog Tryz.lays101_ren := {
  mixed := by kernel_rfl
  f101 := Tryz.func152.trans (congrArg some (by kernel_rfl))
  f206 := Tryz.func185.trans (congrArg some (by kernel_rfl))
  f208 := Tryz.func188.trans (congrArg some (by kernel_rfl))
  t3 := Tryz.underlying3
  a3 := Tryz.isAgg3
  z3 := Tryz.sizeOf3
  v3 := Tryz.zeroValue3
  t4 := Tryz.underlying4
  a4 := Tryz.isAgg4
  z4 := Tryz.sizeOf4
  v4 := Tryz.zeroValue4
  t9 := Tryz.underlying9
  a9 := Tryz.isAgg9
  z9 := Tryz.sizeOf9
  v9 := Tryz.zeroValue9 }
open Go.RowKit Go.Lib in
theorem Tryz.strings_TrimPrefix (s p : ByteArray) (w : World) :
    Calls Tryz.prog 152 #[.string s, .string p] w fun e w' => e = .returned (.string ⟨(Lib.trimPrefix s.data.toList p.data.toList).toArray⟩) ∧ w' = w := Any.strings_TrimPrefix Tryz.lays101 s p w
end Go.Proofs
namespace Go.Proofs.YtfemboojdablhaaGreatDoor
open Go.RowKit Go.Maps
def notLow (r : Nat) : Bool := decide (r < 97) || decide (122 < r)
theorem notLow_byte (b : UInt8) : notLow b.toNat = !isLow b := by
  unfold notLow isLow
  by_cases h1 : b.toNat < 97 <;> by_cases h2 : 122 < b.toNat <;> simp [h1, h2] <;> omega
theorem low_from (s : ByteArray) : ∀ (f pos : Nat), s.size ≤ pos + f → (Lib.idxFuncFrom notLow true s f pos = -1 ↔ ∀ j (h : j < s.size), pos ≤ j → isLow s[j] = true) := by
  intro f
  induction f with
  | zero =>
    intro pos h
    exact ⟨fun _ j hj hp => by omega, fun _ => rfl⟩
  | succ f ih =>
    intro pos h
    unfold Lib.idxFuncFrom
    by_cases hp : pos < s.size
    · rw [if_pos hp]
      by_cases ha : (s[pos]'hp).toNat < 128
      · rw [decode_ascii s pos hp ha]
        show (if notLow s[pos].toNat = true then (pos : Int) else Lib.idxFuncFrom notLow true s f (pos + 1)) = -1 ↔ _
        cases hl : isLow s[pos] with
        | true =>
          have hn : notLow s[pos].toNat = false := by rw [notLow_byte, hl]; rfl
          rw [if_neg (by rw [hn]; simp), ih (pos + 1) (by omega)]
          constructor
          · intro hh j hj hpj
            by_cases e : j = pos
            · subst e; exact hl
            · exact hh j hj (by omega)
          · intro hh j hj hpj
            exact hh j hj (by omega)
        | false =>
          have hn : notLow s[pos].toNat = true := by rw [notLow_byte, hl]; rfl
          rw [if_pos hn]
          constructor
          · intro e; omega
          · intro hh
            have := hh pos hp (Nat.le_refl _)
            rw [hl] at this
            cases this
      · have hd := (decode_high s pos hp (by omega)).1
        have hn : notLow (Utf8.decode s pos).1 = true := by unfold notLow; simp; omega
        rw [if_pos hn]
        constructor
        · intro e; omega
        · intro hh
          have := hh pos hp (Nat.le_refl _)
          unfold isLow at this
          simp at this
          omega
    · rw [if_neg hp]
      exact ⟨fun _ j hj hpj => by omega, fun _ => rfl⟩
theorem low_idx (s : ByteArray) : Lib.idxFunc notLow true s < 0 ↔ ∀ b ∈ s.data.toList, isLow b = true := by
  have h1 : Lib.idxFunc notLow true s < 0 ↔ Lib.idxFunc notLow true s = -1 := by
    rcases Lib.idxFunc_range notLow true s with h | ⟨h, _⟩
    · rw [h]; decide
    · constructor <;> intro <;> omega
  rw [h1]
  unfold Lib.idxFunc
  rw [low_from s s.size 0 (by omega)]
  constructor
  · intro h b hb
    obtain ⟨j, hj, rfl⟩ := List.getElem_of_mem hb
    exact h j (by simpa using hj) (Nat.zero_le _)
  · intro h j hj _
    exact h _ (by
      have : s[j] = s.data.toList[j]'(by simpa using hj) := rfl
      rw [this]
      exact List.getElem_mem _)
theorem occ_two {l : List UInt8} {i : Nat} : Lib.occAt l [58, 93] i = true ↔ (l.drop i).take 2 = [58, 93] := by
  unfold Lib.occAt
  rw [List.isPrefixOf_iff_prefix]
  constructor
  · rintro ⟨t, ht⟩; rw [← ht]; simp
  · intro h; exact ⟨(l.drop i).drop 2, by rw [← h, List.take_append_drop]⟩
def nameB (l : List UInt8) : List UInt8 := (Lib.cut (Lib.trimPrefix l [91, 58]) [58, 93]).1
def askB (l : List UInt8) : Bool := Lib.hasPrefix l [91, 58] && (Lib.cut (Lib.trimPrefix l [91, 58]) [58, 93]).2.2 && !(nameB l).isEmpty && (nameB l).all isLow
theorem take_while_all {r : List UInt8} {i : Nat} (hi : i ≤ r.length) (h1 : (r.take i).all isLow = true) (h2 : ∀ c, r[i]? = some c → isLow c = false) : r.takeWhile isLow = r.take i := by
  induction r generalizing i with
  | nil => simp
  | cons c r ih =>
    match i with
    | 0 =>
      have := h2 c rfl
      simp [this]
    | i + 1 =>
      simp only [List.take_succ_cons, List.all_cons, Bool.and_eq_true] at h1
      rw [List.takeWhile_cons, h1.1]
      simp only [if_true, List.take_succ_cons]
      rw [ih (i := i) (by simpa using hi) h1.2 (fun d hd => h2 d (by simpa using hd))]
theorem ask_name (l : List UInt8) : (askB l = true → className l = some (nameB l)) ∧ (askB l = false → className l = none) := by
  have key : className l = if askB l = true then some (nameB l) else none := by
    unfold className askB nameB Lib.trimPrefix
    cases hp : Lib.hasPrefix l [91, 58] with
    | false =>
      have : ¬ l.take 2 = [91, 58] := by
        intro e
        have : Lib.hasPrefix l [91, 58] = true := by
          unfold Lib.hasPrefix
          rw [List.isPrefixOf_iff_prefix]
          exact ⟨l.drop 2, by rw [← e, List.take_append_drop]⟩
        rw [hp] at this
        cases this
      rw [if_neg (fun h => this h.1)]
      simp
    | true =>
      have e2 : l.take 2 = [91, 58] := by
        unfold Lib.hasPrefix at hp
        rw [List.isPrefixOf_iff_prefix] at hp
        obtain ⟨t, rfl⟩ := hp
        simp
      simp only [if_true, Bool.true_and, List.length_cons, List.length_nil]
      obtain ⟨r, hr⟩ : ∃ r, l.drop 2 = r := ⟨_, rfl⟩
      rw [hr]
      rcases Lib.index_spec r [58, 93] with ⟨hi, hno⟩ | ⟨i, hi, hil, hocc, hfirst⟩
      · have hcut : Lib.cut r [58, 93] = (r, [], false) := by unfold Lib.cut; rw [if_neg (by omega)]
        rw [hcut]
        simp only [Bool.false_and, Bool.false_eq_true, if_false]
        rw [if_neg]
        rintro ⟨_, _, h3⟩
        have h4 := hno (r.takeWhile isLow).length (List.takeWhile_prefix isLow |>.length_le)
        have h5 := occ_two.2 h3
        rw [h4] at h5
        cases h5
      · have hcut : Lib.cut r [58, 93] = (r.take i, r.drop (i + 2), true) := by
          unfold Lib.cut
          rw [if_pos (by omega), hi]
          rfl
        rw [hcut]
        simp only [Bool.true_and]
        have h58 : r[i]? = some 58 := by
          have := occ_two.1 hocc
          have h2 : ((r.drop i).take 2)[0]? = some 58 := by rw [this]; rfl
          rw [List.getElem?_take_of_lt (by decide), List.getElem?_drop] at h2
          simpa using h2
        cases hall : (r.take i).all isLow with
        | true =>
          have ht := take_while_all hil hall (fun c hc => by rw [h58] at hc; cases hc; rfl)
          rw [ht]
          have hl : (r.take i).length = i := by rw [List.length_take]; omega
          rw [hl]
          by_cases hem : r.take i = []
          · rw [hem]
            simp
          · have : (r.take i).isEmpty = false := by simpa using hem
            rw [this]
            rw [if_pos ⟨e2, hem, occ_two.1 hocc⟩]
            simp
        | false =>
          simp only [Bool.and_false, Bool.false_eq_true, if_false]
          rw [if_neg]
          rintro ⟨_, _, h3⟩
          have hk := occ_two.2 h3
          have hkl : (r.takeWhile isLow).length ≤ r.length := List.takeWhile_prefix isLow |>.length_le
          have hik : i ≤ (r.takeWhile isLow).length := by
            by_cases hh : (r.takeWhile isLow).length < i
            · have := hfirst _ hh
              rw [hk] at this
              cases this
            · omega
          have : (r.take i).all isLow = true := by
            rw [List.all_eq_true]
            intro b hb
            have hpre : r.take i = (r.takeWhile isLow).take i := by
              obtain ⟨t, ht⟩ := List.takeWhile_prefix (l := r) isLow
              conv => lhs; rw [← ht]
              rw [List.take_append_of_le_length hik]
            rw [hpre] at hb
            have hat := List.all_takeWhile (p := isLow) (l := r)
            rw [List.all_eq_true] at hat
            exact hat b (List.mem_of_mem_take hb)
          rw [hall] at this
          cases this
  constructor
  · intro h; rw [key, if_pos h]
  · intro h; rw [key, h]; rfl
def MaxW (w : World) : Prop := ∃ m, w.cell? ⟨9, 0, none⟩ = some (.int .i64 m)
theorem MaxW.below {B : Nat} {w w' : World} (h : MaxW w) (hB : 9 < B) (hb : Below B w w') : MaxW w' := by
  obtain ⟨m, hm⟩ := h
  exact ⟨m, (hb.cell (p := ⟨9, 0, none⟩) hB).trans hm⟩
theorem isLow_pred (w : World) : PredAt Tryz.prog 299 #[] encR notLow w := fun W r _ => by
  unfold FnGives
  by_cases h1 : r < 97 <;> by_cases h2 : 122 < r
  all_goals
    have z1 : (r : Int) < 97 ↔ r < 97 := by omega
    have z2 : (122 : Int) < (r : Int) ↔ 122 < r := by omega
    go_enter Tryz.func299, Tryz.ntmps299
    go_wp2
    all_goals first | (exfalso; omega) | (go_ret; exact ⟨by simp [notLow, h1, h2], 0, rfl⟩)
set_option maxRecDepth 100000 in
set_option maxHeartbeats 1000000 in
theorem className_any (s : ByteArray) (w : World) (hs : s.size ≤ 1000000000) (hM : MaxW w) :
    Calls Tryz.prog 279 #[.string s] w fun e w' => e = .returned (.tuple #[.string ⟨(nameB s.data.toList).toArray⟩, .bool (askB s.data.toList)]) ∧ Below w.heap.size w w' := by
  obtain ⟨m, hm⟩ := hM
  have c1 := Tryz.strings_CutPrefix s ⟨#[91, 58]⟩ w
  obtain ⟨r, hr⟩ : ∃ r : ByteArray, r = ⟨(Lib.trimPrefix s.data.toList [91, 58]).toArray⟩ := ⟨_, rfl⟩
  have hrl : r.data.toList = Lib.trimPrefix s.data.toList [91, 58] := by rw [hr]
  have hrs : r.size < 4294967281 := by
    rw [hr]
    show (Lib.trimPrefix s.data.toList [91, 58]).toArray.size < _
    rw [List.size_toArray]
    have : (Lib.trimPrefix s.data.toList [91, 58]).length ≤ s.size := by
      unfold Lib.trimPrefix
      split
      · simp
      · simp
    omega
  have c2 := Tryz.strings_Cut r ⟨#[58, 93]⟩ m w hrs hm
  obtain ⟨n, hn⟩ : ∃ n : ByteArray, n = ⟨(nameB s.data.toList).toArray⟩ := ⟨_, rfl⟩
  have hnl : n.data.toList = nameB s.data.toList := by rw [hn]
  have hn2 : (⟨(Lib.cut r.data.toList [58, 93]).1.toArray⟩ : ByteArray) = n := by rw [hn, hrl]; rfl
  obtain ⟨op, hop⟩ : ∃ op, Lib.hasPrefix s.data.toList [91, 58] = op := ⟨_, rfl⟩
  obtain ⟨cl, hcl⟩ : ∃ cl, (Lib.cut r.data.toList [58, 93]).2.2 = cl := ⟨_, rfl⟩
  simp only at c1 c2
  rw [← hr, hop] at c1
  rw [hn2, hcl] at c2
  have c3 := fun (W : World) => Tryz.strings_IndexFunc 299 #[] (enters_of Tryz.func299 (by kernel_rfl) rfl) notLow n W (isLow_pred W)
  have hlow := low_idx n
  obtain ⟨ix, hix⟩ : ∃ ix, Lib.idxFunc notLow true n = ix := ⟨_, rfl⟩
  rw [hix] at hlow
  simp only [hix] at c3
  have hask : askB s.data.toList = (op && cl && !(nameB s.data.toList).isEmpty && (nameB s.data.toList).all isLow) := by
    unfold askB
    rw [hop]
    rw [← hrl, hcl]
  have hem : n.toList.isEmpty = (nameB s.data.toList).isEmpty := by
    rw [← hnl]
    rw [ByteArray.toList_eq]
  have hlt : decide (ix < 0) = (nameB s.data.toList).all isLow := by
    rw [Bool.eq_iff_iff, decide_eq_true_eq, hlow, hnl, List.all_eq_true]
  rw [← hn, hask]
  clear hask hlow hcl hop hn hnl hn2 hrl hr hix hrs hm
  generalize (nameB s.data.toList).isEmpty = em at hem ⊢
  generalize (nameB s.data.toList).all isLow = al at hlt ⊢
  cases op <;> cases cl <;> cases em
  all_goals
    go_enter Tryz.func279, Tryz.ntmps279
    go_wp2_with first
      | (go_at_call 149; refine c1.mono ?_; rintro e w1 ⟨rfl, rfl⟩)
      | (go_at_call 297; refine c2.mono ?_; rintro e w2 ⟨rfl, q, rfl⟩)
      | (go_at_call 298; refine (c3 _).mono ?_; rintro e w3 ⟨rfl, hb3⟩)
    all_goals exact bodyPost_ret (v := .tuple #[.string n, .bool _]) (by simp [results, Tryz.results279, go_sem]; rfl) rfl ⟨by simp, ⟨hb3.os, hb3.tape, hb3.output, hb3.size, hb3.block⟩⟩
end Go.Proofs.YtfemboojdablhaaGreatDoor
namespace Go.Proofs.YtfemboojdablhaaGreatDoor
def splitL (c : UInt8) : List UInt8 → List (List UInt8)
  | [] => [[]]
  | x :: r => if x = c then [] :: splitL c r else
      match splitL c r with
      | [] => [[x]]
      | p :: ps => (x :: p) :: ps
theorem split_ne (c : UInt8) (l : List UInt8) : splitL c l ≠ [] := by
  cases l with
  | nil => simp [splitL]
  | cons x r =>
    unfold splitL
    by_cases h : x = c
    · rw [if_pos h]; simp
    · rw [if_neg h]; cases splitL c r <;> simp
theorem split_same (c : UInt8) (r : List UInt8) : splitL c (c :: r) = [] :: splitL c r := by
  conv => lhs; unfold splitL
  rw [if_pos rfl]
theorem split_other (c x : UInt8) (r : List UInt8) (h : ¬ x = c) : ∃ p ps, splitL c r = p :: ps ∧ splitL c (x :: r) = (x :: p) :: ps := by
  cases e : splitL c r with
  | nil => exact absurd e (split_ne c r)
  | cons p ps =>
    refine ⟨p, ps, rfl, ?_⟩
    conv => lhs; unfold splitL
    rw [if_neg h, e]
theorem split_end (c : UInt8) (p : List UInt8) (h : c ∉ p) : splitL c p = [p] := by
  induction p with
  | nil => rfl
  | cons x r ih =>
    have hx : ¬ x = c := fun e => h (by simp [e])
    obtain ⟨p, ps, e1, e2⟩ := split_other c x r hx
    rw [ih (fun hm => h (by simp [hm]))] at e1
    simp only [List.cons.injEq] at e1
    rw [e2, ← e1.1, ← e1.2]
theorem split_hit (c : UInt8) (p r : List UInt8) (h : c ∉ p) : splitL c (p ++ c :: r) = p :: splitL c r := by
  induction p with
  | nil => exact split_same c r
  | cons x q ih =>
    have hx : ¬ x = c := fun e => h (by simp [e])
    obtain ⟨p, ps, e1, e2⟩ := split_other c x (q ++ c :: r) hx
    rw [ih (fun hm => h (by simp [hm]))] at e1
    simp only [List.cons.injEq] at e1
    rw [List.cons_append, e2, ← e1.1, ← e1.2]
theorem split_length (c : UInt8) (l : List UInt8) : (splitL c l).length ≤ l.length + 1 := by
  induction l with
  | nil => simp [splitL]
  | cons x r ih =>
    by_cases h : x = c
    · subst h; rw [split_same]; simp; omega
    · obtain ⟨p, ps, e1, e2⟩ := split_other c x r h
      rw [e1] at ih
      rw [e2]; simp at ih ⊢; omega
def bs (l : List UInt8) : ByteArray := ⟨l.toArray⟩
theorem bs_data (s : ByteArray) : bs s.data.toList = s := rfl
theorem data_bs (l : List UInt8) : (bs l).data.toList = l := rfl
theorem bs_inj {s t : ByteArray} (h : s.data.toList = t.data.toList) : s = t := by
  rw [← bs_data s, ← bs_data t, h]
theorem extract_bs (s : ByteArray) (a b : Nat) : s.extract a b = bs ((s.data.toList.drop a).take (b - a)) := by
  apply bs_inj
  rw [data_bs, ByteArray.data_extract, Array.toList_extract, List.extract_eq_take_drop]
def cutS (c : UInt8) (s : ByteArray) : List ByteArray := (splitL c s.data.toList).map bs
def keep (p : ByteArray) : Bool := !p.toList.isEmpty
def partsS (s : ByteArray) : List ByteArray := (cutS 47 s).filter keep
theorem cutS_length (c : UInt8) (s : ByteArray) : (cutS c s).length ≤ s.size + 1 := by
  have := split_length c s.data.toList
  unfold cutS
  rw [List.length_map]
  simpa using this
theorem partsS_length (s : ByteArray) : (partsS s).length ≤ s.size + 1 :=
  Nat.le_trans (List.length_filter_le _ _) (cutS_length 47 s)
theorem size_list (s : ByteArray) : s.data.toList.length = s.size := by simp
theorem drop_get (s : ByteArray) (k : Nat) (h : k < s.size) : s.data.toList.drop k = s[k] :: s.data.toList.drop (k + 1) := by
  rw [List.drop_eq_getElem_cons (by simpa using h)]; rfl
end Go.Proofs.YtfemboojdablhaaGreatDoor
namespace Go.Proofs.YtfemboojdablhaaGreatDoor
open Go.RowKit
theorem Tryz.info9 : (Tryz.prog.info? 9).map (fun i => (i.zero, i.size, i.bytes)) = some (some (.string ⟨#[]⟩), 1, 16) := by kernel_rfl
theorem row_push {B : Nat} {w1 : World} {v' : Value} {xs : List ByteArray} {x : ByteArray} (hown' : w1.ownsRow B 9 1 v' (xs.length + 1) (xs.map Value.string ++ [Value.string x])) :
    w1.ownsRow B 9 1 v' (xs ++ [x]).length ((xs ++ [x]).map Value.string) := by
  rw [List.length_append, List.map_append]; exact hown'
def StrRow (B : Nat) (W : World) (v : Value) (xs : List ByteArray) : Prop :=
  (v = .slice none 0 0 ∧ xs = []) ∨ ∃ g cap, v = .slice (some ⟨g, 0, none⟩) xs.length cap ∧ g < B ∧ xs.length ≤ cap ∧ ∀ (j : Nat) (x : ByteArray), xs[j]? = some x → W.cell? ⟨g, j, none⟩ = some (.string x)
theorem StrRow.below {B : Nat} {W W' : World} {v : Value} {xs : List ByteArray} (h : StrRow B W v xs) (hb : Below B W W') : StrRow B W' v xs := by
  rcases h with h | ⟨g, cap, rfl, hg, hc, hx⟩
  · exact .inl h
  · exact .inr ⟨g, cap, rfl, hg, hc, fun j x hj => (hb.cell (p := ⟨g, j, none⟩) hg).trans (hx j x hj)⟩
theorem StrRow.of_owns {B : Nat} {W : World} {v : Value} {xs : List ByteArray} (h : W.ownsRow B 9 1 v xs.length (xs.map Value.string)) : StrRow W.heap.size W v xs := by
  rcases h.2 with ⟨rfl, h2⟩ | ⟨g, cap, cur, rfl, hb, hg, hn, _, hs, ht⟩
  · exact .inl ⟨rfl, List.eq_nil_of_length_eq_zero h2⟩
  · refine .inr ⟨g, cap, rfl, (Array.getElem?_eq_some_iff.1 hg).1, hn, fun j x hj => ?_⟩
    have hj' : j < xs.length := (List.getElem?_eq_some_iff.1 hj).1
    have e1 : (cur.toList.take (xs.length * 1))[j]? = some (.string x) := by rw [ht, List.getElem?_map, hj]; rfl
    rw [List.getElem?_take_of_lt (by omega)] at e1
    simp only [World.cell?, hg]
    simpa using e1
end Go.Proofs.YtfemboojdablhaaGreatDoor
namespace Go.Proofs.YtfemboojdablhaaGreatDoor
open Go.RowKit
theorem owns_base {B B' n : Nat} {W : World} {v : Value} {xs : List Value} (hB : B ≤ B') (h : W.ownsRow B' 9 1 v n xs) : W.ownsRow B 9 1 v n xs := by
  refine ⟨h.1, ?_⟩
  rcases h.2 with h2 | ⟨g, cap, cur, e, hb, r⟩
  · exact .inl h2
  · exact .inr ⟨g, cap, cur, e, by omega, r⟩
end Go.Proofs.YtfemboojdablhaaGreatDoor
namespace Go.Proofs.YtfemboojdablhaaGreatDoor
open Go.RowKit
def idxS (r : ByteArray) : Int := Lib.indexByte r.data.toList 47
theorem idx_cases (c : UInt8) (l : List UInt8) : (Lib.indexByte l c = -1 ∧ c ∉ l) ∨ ∃ p r, l = p ++ c :: r ∧ c ∉ p ∧ Lib.indexByte l c = (p.length : Int) := by
  induction l with
  | nil => exact .inl ⟨rfl, by simp⟩
  | cons b l ih =>
    by_cases hb : b = c
    · subst hb
      exact .inr ⟨[], l, rfl, by simp, by simp [Lib.indexByte]⟩
    · have hbb : (b == c) = false := by simpa using hb
      rcases ih with ⟨h1, h2⟩ | ⟨p, r, rfl, h2, h3⟩
      · exact .inl ⟨by simp [Lib.indexByte, hbb, h1], by simp [h2]; exact fun e => hb e.symm⟩
      · refine .inr ⟨b :: p, r, rfl, by simp [h2]; exact fun e => hb e.symm, ?_⟩
        have hne : ¬ ((p.length : Int) = -1) := by omega
        simp [Lib.indexByte, hbb, h3, hne]
theorem idxS_cases (r : ByteArray) : (idxS r = -1 ∧ (47 : UInt8) ∉ r.data.toList) ∨ ∃ p t : List UInt8, r.data.toList = p ++ 47 :: t ∧ (47 : UInt8) ∉ p ∧ idxS r = (p.length : Int) := idx_cases 47 r.data.toList
set_option maxHeartbeats 1000000 in
set_option maxRecDepth 100000 in
theorem indexByte_any (s : ByteArray) (c : Int) (w : World) :
    Calls Tryz.prog 252 #[.string s, .int .u8 c] w fun e w' => e = .returned (.int .i64 (Lib.indexByte s.data.toList c.toNat.toUInt8)) ∧ w' = w := by
  go_enter Tryz.func252, Tryz.ntmps252
  go_wp2
  rw [run_callFunc_extern Tryz.func275 (by kernel_rfl) (by kernel_rfl) (by kernel_rfl) (e := Extern.BytealgIndexByte.indexByte) (by kernel_rfl), Lib.run_indexByteString]
  simp only [Result.andThen]
  rw [Oper.upon_value]
  go_wp2
  go_ret
  exact ⟨rfl, rfl⟩
set_option maxHeartbeats 2000000 in
set_option maxRecDepth 100000 in
theorem indexLite_any (s : ByteArray) (w : World) :
    Calls Tryz.prog 221 #[.string s, .string ⟨#[47]⟩] w fun e w' => e = .returned (.int .i64 (idxS s)) ∧ w' = w := by
  go_enter Tryz.func221, Tryz.ntmps221
  go_wp2_with (go_at_call 252; refine (indexByte_any _ _ _).mono ?_; rintro e w' ⟨rfl, rfl⟩)
  · have h : ([47] == s.toList) = true := by assumption
    go_ret
    refine ⟨?_, rfl⟩
    have e : s.data.toList = [47] := by rw [← Lib.toList_data]; exact (beq_iff_eq.1 h).symm
    unfold idxS
    rw [e]
    simp [Lib.indexByte]
  · go_ret
    exact ⟨rfl, rfl⟩
set_option maxHeartbeats 1000000 in
theorem index_any (s : ByteArray) (w : World) :
    Calls Tryz.prog 184 #[.string s, .string ⟨#[47]⟩] w fun e w' => e = .returned (.int .i64 (idxS s)) ∧ w' = w := by
  go_enter Tryz.func184, Tryz.ntmps184
  go_wp2_with (go_at_call 221; refine (indexLite_any _ _).mono ?_; rintro e w' ⟨rfl, rfl⟩)
  go_ret
  exact ⟨rfl, rfl⟩
end Go.Proofs.YtfemboojdablhaaGreatDoor
