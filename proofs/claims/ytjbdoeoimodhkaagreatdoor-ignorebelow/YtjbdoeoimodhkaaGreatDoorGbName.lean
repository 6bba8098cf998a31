/- What the library's functions answer, at this program: the shelf's contracts, laid. -/
import Derived.Ground.GgwProg
import Derived.Shelf.GgClosure.StringsIndexFunc
import Derived.Shelf.GgClosure.StringsIndexFuncTop
import Derived.Shelf.GgClosure.StringsRunes
import Derived.Shelf.LaysM
import Derived.Shelf.Small.Strs
import Derived.Shelf.Small.Utf8
import Derived.Shelf.Small.Wraps
import Derived.Shelf.Strings.AsciiSet
import Derived.Shelf.Strings.Cut
import Derived.Shelf.Strings.FuncGrows
import Derived.Shelf.Strings.Prefix
import Derived.Shelf.Strings.Runes
import Derived.Shelf.Strings.Search1
import Derived.Shelf.Strings.Search2
import Derived.Shelf.Strings.Search3
import Derived.Shelf.Strings.Shaped
import Derived.Shelf.Strings.Trim
import Derived.Shelf.Unicode.Decode
import Derived.Shelf.Unicode.DecodeAny
import Derived.Shelf.Unicode.DecodeLast
import Derived.Shelf.Unicode.DecodeSlow
import Derived.Test.YtjbdoeoimodhkaaGreatDoorProg
import Derived.Test.YtjbdoeoimodhkaaGreatDoorGbPlain
import Derived.Test.YtjbdoeoimodhkaaGreatDoorIgBase
import Derived.Laws.RangeAny
namespace Go.Proofs
open Go.Shelf
def Tryz.lays162_ren : Go.Shelf.Ren := ⟨fun | 162 => 59 | 232 => 80 | 227 => 81 | 234 => 82 | 236 => 83 | 228 => 99 | 271 => 100 | 151 => 101 | 120 => 118 | 197 => 70 | 152 => 119 | 260 => 87 | 137 => 123 | 119 => 134 | 224 => 105 | 225 => 104 | 217 => 103 | 266 => 120 | n => n, fun | 9 => 9 | 4 => 4 | 3 => 3 | 5 => 5 | 117 => 131 | 116 => 130 | 0 => 0 | 124 => 134 | 21 => 21 | 105 => 119 | 46 => 174 | 119 => 173 | 139 => 177 | 138 => 176 | n => n, fun | 3 => 7 | 4 => 8 | n => n⟩
theorem Tryz.lays162 : Go.Proofs.Lays.n162 Tryz.prog Tryz.lays162_ren := {
  mixed := by kernel_rfl
  f119 := Tryz.func134.trans (congrArg some (by kernel_rfl))
  f120 := Tryz.func118.trans (congrArg some (by kernel_rfl))
  f137 := Tryz.func123.trans (congrArg some (by kernel_rfl))
  f151 := Tryz.func101.trans (congrArg some (by kernel_rfl))
  f152 := Tryz.func119.trans (congrArg some (by kernel_rfl))
  f162 := Tryz.func59.trans (congrArg some (by kernel_rfl))
  f197 := Tryz.func70.trans (congrArg some (by kernel_rfl))
  f217 := Tryz.func103.trans (congrArg some (by kernel_rfl))
  f224 := Tryz.func105.trans (congrArg some (by kernel_rfl))
  f225 := Tryz.func104.trans (congrArg some (by kernel_rfl))
  f227 := Tryz.func81.trans (congrArg some (by kernel_rfl))
  f228 := Tryz.func99.trans (congrArg some (by kernel_rfl))
  f232 := Tryz.func80.trans (congrArg some (by kernel_rfl))
  f234 := Tryz.func82.trans (congrArg some (by kernel_rfl))
  f236 := Tryz.func83.trans (congrArg some (by kernel_rfl))
  f260 := Tryz.func87.trans (congrArg some (by kernel_rfl))
  f266 := Tryz.func120.trans (congrArg some (by kernel_rfl))
  f271 := Tryz.func100.trans (congrArg some (by kernel_rfl))
  t0 := Tryz.underlying0
  a0 := Tryz.isAgg0
  z0 := Tryz.sizeOf0
  v0 := Tryz.zeroValue0
  t3 := Tryz.underlying3
  a3 := Tryz.isAgg3
  z3 := Tryz.sizeOf3
  v3 := Tryz.zeroValue3
  t4 := Tryz.underlying4
  a4 := Tryz.isAgg4
  z4 := Tryz.sizeOf4
  v4 := Tryz.zeroValue4
  t5 := Tryz.underlying5
  a5 := Tryz.isAgg5
  z5 := Tryz.sizeOf5
  v5 := Tryz.zeroValue5
  t9 := Tryz.underlying9
  a9 := Tryz.isAgg9
  z9 := Tryz.sizeOf9
  v9 := Tryz.zeroValue9
  t21 := Tryz.underlying21
  a21 := Tryz.isAgg21
  z21 := Tryz.sizeOf21
  v21 := Tryz.zeroValue21
  t46 := Tryz.underlying174
  a46 := Tryz.isAgg174
  z46 := Tryz.sizeOf174
  v46 := Tryz.zeroValue174
  t105 := Tryz.underlying119
  a105 := Tryz.isAgg119
  z105 := Tryz.sizeOf119
  v105 := Tryz.zeroValue119
  t116 := Tryz.underlying130
  a116 := Tryz.isAgg130
  z116 := Tryz.sizeOf130
  t117 := Tryz.underlying131
  a117 := Tryz.isAgg131
  z117 := Tryz.sizeOf131
  v117 := Tryz.zeroValue131
  t119 := Tryz.underlying173
  a119 := Tryz.isAgg173
  z119 := Tryz.sizeOf173
  t124 := Tryz.underlying134
  a124 := Tryz.isAgg134
  z124 := Tryz.sizeOf134
  v124 := Tryz.zeroValue134
  t138 := Tryz.underlying176
  a138 := Tryz.isAgg176
  z138 := Tryz.sizeOf176
  v138 := Tryz.zeroValue176
  t139 := Tryz.underlying177
  a139 := Tryz.isAgg177
  z139 := Tryz.sizeOf177
  v139 := Tryz.zeroValue177
  g3 := by kernel_rfl
  g4 := by kernel_rfl }
open Go.RowKit in
theorem Tryz.strings_TrimRight_one (s : ByteArray) (c : UInt8) (hc : c.toNat < 128) (w : World) (hs : s.size ≤ 9223372036854775807) :
    Calls Tryz.prog 59 #[.string s, .string ⟨#[c]⟩] w fun e w' => e = .returned (.string ⟨(Lib.trimRightB s.data.toList c).toArray⟩) ∧ w' = w := Any.strings_TrimRight_one Tryz.lays162 s c hc w hs
def Tryz.lays137_ren : Go.Shelf.Ren := ⟨fun | 137 => 123 | 217 => 103 | 266 => 120 | n => n, fun | 9 => 9 | 5 => 5 | 3 => 3 | n => n, fun | n => n⟩
theorem Tryz.lays137 : Go.Proofs.Lays.n137 Tryz.prog Tryz.lays137_ren := {
  mixed := by kernel_rfl
  f137 := Tryz.func123.trans (congrArg some (by kernel_rfl))
  f217 := Tryz.func103.trans (congrArg some (by kernel_rfl))
  f266 := Tryz.func120.trans (congrArg some (by kernel_rfl))
  t3 := Tryz.underlying3
  a3 := Tryz.isAgg3
  z3 := Tryz.sizeOf3
  v3 := Tryz.zeroValue3
  t5 := Tryz.underlying5
  a5 := Tryz.isAgg5
  z5 := Tryz.sizeOf5
  v5 := Tryz.zeroValue5
  t9 := Tryz.underlying9
  a9 := Tryz.isAgg9
  z9 := Tryz.sizeOf9
  v9 := Tryz.zeroValue9 }
open Go.RowKit in
theorem Tryz.strings_IndexByte (s : ByteArray) (c : Int) (w : World) :
    Calls Tryz.prog 123 #[.string s, .int .u8 c] w fun e w' => e = .returned (.int .i64 (Lib.indexByte s.data.toList c.toNat.toUInt8)) ∧ w' = w := Any.strings_IndexByte Tryz.lays137 s c w
def Tryz.lays103_ren : Go.Shelf.Ren := ⟨fun | 103 => 53 | 210 => 73 | 206 => 72 | n => n, fun | 9 => 9 | 4 => 4 | 24 => 56 | 3 => 3 | n => n, fun | n => n⟩
theorem Tryz.lays103 : Go.Proofs.Lays.n103 Tryz.prog Tryz.lays103_ren := {
  mixed := by kernel_rfl
  f103 := Tryz.func53.trans (congrArg some (by kernel_rfl))
  f206 := Tryz.func72.trans (congrArg some (by kernel_rfl))
  f210 := Tryz.func73.trans (congrArg some (by kernel_rfl))
  t3 := Tryz.underlying3
  a3 := Tryz.isAgg3
  z3 := Tryz.sizeOf3
  v3 := Tryz.zeroValue3
  t4 := Tryz.underlying4
  a4 := Tryz.isAgg4
  z4 := Tryz.sizeOf4
  v4 := Tryz.zeroValue4
  t9 := Tryz.underlying9
  a9 := Tryz.isAgg9
  z9 := Tryz.sizeOf9
  v9 := Tryz.zeroValue9
  t24 := Tryz.underlying56
  a24 := Tryz.isAgg56
  z24 := Tryz.sizeOf56
  v24 := Tryz.zeroValue56 }
open Go.RowKit in
theorem Tryz.strings_CutPrefix (s p : ByteArray) (w : World) :
    Calls Tryz.prog 53 #[.string s, .string p] w fun e w' => e = .returned (.tuple #[.string ⟨(Lib.trimPrefix s.data.toList p.data.toList).toArray⟩, .bool (Lib.hasPrefix s.data.toList p.data.toList)]) ∧ w' = w := Any.strings_CutPrefix Tryz.lays103 s p w
def Tryz.lays104_ren : Go.Shelf.Ren := ⟨fun | 104 => 54 | 211 => 74 | 207 => 64 | n => n, fun | 9 => 9 | 4 => 4 | 24 => 56 | 3 => 3 | n => n, fun | n => n⟩
theorem Tryz.lays104 : Go.Proofs.Lays.n104 Tryz.prog Tryz.lays104_ren := {
  mixed := by kernel_rfl
  f104 := Tryz.func54.trans (congrArg some (by kernel_rfl))
  f207 := Tryz.func64.trans (congrArg some (by kernel_rfl))
  f211 := Tryz.func74.trans (congrArg some (by kernel_rfl))
  t3 := Tryz.underlying3
  a3 := Tryz.isAgg3
  z3 := Tryz.sizeOf3
  v3 := Tryz.zeroValue3
  t4 := Tryz.underlying4
  a4 := Tryz.isAgg4
  z4 := Tryz.sizeOf4
  v4 := Tryz.zeroValue4
  t9 := Tryz.underlying9
  a9 := Tryz.isAgg9
  z9 := Tryz.sizeOf9
  v9 := Tryz.zeroValue9
  t24 := Tryz.underlying56
  a24 := Tryz.isAgg56
  z24 := Tryz.sizeOf56
  v24 := Tryz.zeroValue56 }
open Go.RowKit in
theorem Tryz.strings_CutSuffix (s p : ByteArray) (w : World) (hs : s.size ≤ 9223372036854775807) :
    Calls Tryz.prog 54 #[.string s, .string p] w fun e w' => e = .returned (.tuple #[.string ⟨(Lib.trimSuffix s.data.toList p.data.toList).toArray⟩, .bool (Lib.hasSuffix s.data.toList p.data.toList)]) ∧ w' = w := Any.strings_CutSuffix Tryz.lays104 s p w hs
def Tryz.lays144_ren : Go.Shelf.Ren := ⟨fun | 144 => 55 | 143 => 71 | 219 => 88 | 217 => 103 | 225 => 104 | 224 => 105 | 267 => 106 | 266 => 120 | 314 => 121 | n => n, fun | 9 => 9 | 4 => 4 | 3 => 3 | 5 => 5 | 46 => 174 | 146 => 210 | 51 => 209 | n => n, fun | 1 => 6 | n => n⟩
theorem Tryz.lays144 : Go.Proofs.Lays.n144 Tryz.prog Tryz.lays144_ren := {
  mixed := by kernel_rfl
  f143 := Tryz.func71.trans (congrArg some (by kernel_rfl))
  f144 := Tryz.func55.trans (congrArg some (by kernel_rfl))
  f217 := Tryz.func103.trans (congrArg some (by kernel_rfl))
  f219 := Tryz.func88.trans (congrArg some (by kernel_rfl))
  f224 := Tryz.func105.trans (congrArg some (by kernel_rfl))
  f225 := Tryz.func104.trans (congrArg some (by kernel_rfl))
  f266 := Tryz.func120.trans (congrArg some (by kernel_rfl))
  f267 := Tryz.func106.trans (congrArg some (by kernel_rfl))
  f314 := Tryz.func121.trans (congrArg some (by kernel_rfl))
  t3 := Tryz.underlying3
  a3 := Tryz.isAgg3
  z3 := Tryz.sizeOf3
  v3 := Tryz.zeroValue3
  t4 := Tryz.underlying4
  a4 := Tryz.isAgg4
  z4 := Tryz.sizeOf4
  v4 := Tryz.zeroValue4
  t5 := Tryz.underlying5
  a5 := Tryz.isAgg5
  z5 := Tryz.sizeOf5
  v5 := Tryz.zeroValue5
  t9 := Tryz.underlying9
  a9 := Tryz.isAgg9
  z9 := Tryz.sizeOf9
  v9 := Tryz.zeroValue9
  t46 := Tryz.underlying174
  a46 := Tryz.isAgg174
  z46 := Tryz.sizeOf174
  v46 := Tryz.zeroValue174
  t51 := Tryz.underlying209
  a51 := Tryz.isAgg209
  z51 := Tryz.sizeOf209
  v51 := Tryz.zeroValue209
  t146 := Tryz.underlying210
  a146 := Tryz.isAgg210
  z146 := Tryz.sizeOf210
  v146 := Tryz.zeroValue210
  g1 := by kernel_rfl }
open Go.RowKit Go.Lib in
theorem Tryz.strings_Contains_one (s : ByteArray) (c : UInt8) (w : World) :
    Calls Tryz.prog 55 #[.string s, .string ⟨#[c]⟩] w fun e w' => e = .returned (.bool (decide (0 ≤ Lib.indexByte s.data.toList c))) ∧ w' = w := Any.strings_Contains_one Tryz.lays144 s c w
def Tryz.lays145_ren : Go.Shelf.Ren := ⟨fun | 145 => 143 | 220 => 149 | 219 => 88 | 217 => 103 | 225 => 104 | 224 => 105 | 267 => 106 | 266 => 120 | 314 => 121 | n => n, fun | 9 => 9 | 4 => 4 | 59 => 232 | 3 => 3 | 5 => 5 | 46 => 174 | 146 => 210 | 51 => 209 | n => n, fun | 1 => 6 | n => n⟩
theorem Tryz.lays145 : Go.Proofs.Lays.n145 Tryz.prog Tryz.lays145_ren := {
  mixed := by kernel_rfl
  f145 := Tryz.func143.trans (congrArg some (by kernel_rfl))
  f217 := Tryz.func103.trans (congrArg some (by kernel_rfl))
  f219 := Tryz.func88.trans (congrArg some (by kernel_rfl))
  f220 := Tryz.func149.trans (congrArg some (by kernel_rfl))
  f224 := Tryz.func105.trans (congrArg some (by kernel_rfl))
  f225 := Tryz.func104.trans (congrArg some (by kernel_rfl))
  f266 := Tryz.func120.trans (congrArg some (by kernel_rfl))
  f267 := Tryz.func106.trans (congrArg some (by kernel_rfl))
  f314 := Tryz.func121.trans (congrArg some (by kernel_rfl))
  t3 := Tryz.underlying3
  a3 := Tryz.isAgg3
  z3 := Tryz.sizeOf3
  v3 := Tryz.zeroValue3
  t4 := Tryz.underlying4
  a4 := Tryz.isAgg4
  z4 := Tryz.sizeOf4
  v4 := Tryz.zeroValue4
  t5 := Tryz.underlying5
  a5 := Tryz.isAgg5
  z5 := Tryz.sizeOf5
  v5 := Tryz.zeroValue5
  t9 := Tryz.underlying9
  a9 := Tryz.isAgg9
  z9 := Tryz.sizeOf9
  v9 := Tryz.zeroValue9
  t46 := Tryz.underlying174
  a46 := Tryz.isAgg174
  z46 := Tryz.sizeOf174
  v46 := Tryz.zeroValue174
  t51 := Tryz.underlying209
  a51 := Tryz.isAgg209
  z51 := Tryz.sizeOf209
  v51 := Tryz.zeroValue209
  t59 := Tryz.underlying232
  a59 := Tryz.isAgg232
  z59 := Tryz.sizeOf232
  v59 := Tryz.zeroValue232
  t146 := Tryz.underlying210
  a146 := Tryz.isAgg210
  z146 := Tryz.sizeOf210
  v146 := Tryz.zeroValue210
  g1 := by kernel_rfl }
open Go.RowKit Go.Lib in
theorem Tryz.strings_Cut (s sep : ByteArray) (m : Int) (w : World) (hs : s.size < 4294967281) (hm : w.cell? ⟨6, 0, none⟩ = some (.int .i64 m)) :
    Calls Tryz.prog 143 #[.string s, .string sep] w fun e w' => e = .returned (.tuple #[.string ⟨(Lib.cut s.data.toList sep.data.toList).1.toArray⟩, .string ⟨(Lib.cut s.data.toList sep.data.toList).2.1.toArray⟩, .bool (Lib.cut s.data.toList sep.data.toList).2.2]) ∧ ∃ n, w' = w.drewN n := Any.strings_Cut Tryz.lays145 s sep m w hs hm
def Tryz.laysGw15_ren : Go.Shelf.Ren := ⟨fun | 15 => 144 | 20 => 150 | n => n, fun | 9 => 9 | 23 => 219 | 3 => 3 | 4 => 4 | 0 => 0 | 21 => 21 | n => n, fun | n => n⟩
theorem Tryz.laysGw15 : Go.Proofs.LaysGw.n15 Tryz.prog Tryz.laysGw15_ren := {
  mixed := by kernel_rfl
  f15 := Tryz.func144.trans (congrArg some (by kernel_rfl))
  f20 := Tryz.func150.trans (congrArg some (by kernel_rfl))
  t0 := Tryz.underlying0
  a0 := Tryz.isAgg0
  z0 := Tryz.sizeOf0
  v0 := Tryz.zeroValue0
  i0 := by kernel_rfl
  t3 := Tryz.underlying3
  a3 := Tryz.isAgg3
  z3 := Tryz.sizeOf3
  v3 := Tryz.zeroValue3
  i3 := by kernel_rfl
  t4 := Tryz.underlying4
  a4 := Tryz.isAgg4
  z4 := Tryz.sizeOf4
  v4 := Tryz.zeroValue4
  i4 := by kernel_rfl
  t9 := Tryz.underlying9
  a9 := Tryz.isAgg9
  z9 := Tryz.sizeOf9
  v9 := Tryz.zeroValue9
  i9 := by kernel_rfl
  t21 := Tryz.underlying21
  a21 := Tryz.isAgg21
  z21 := Tryz.sizeOf21
  v21 := Tryz.zeroValue21
  i21 := by kernel_rfl
  t23 := Tryz.underlying219
  a23 := Tryz.isAgg219
  z23 := Tryz.sizeOf219
  v23 := Tryz.zeroValue219
  i23 := by kernel_rfl }
open Go.RowKit Go.Lib in
theorem Tryz.strings_IndexFunc (g : Nat) (lb : Array Value) (eg : ∀ args w, (callFunc g args).run Tryz.prog w = .ok (.enter g args) w) (p : Nat → Bool) (s : ByteArray) (w : World) (hp : PredAt Tryz.prog g lb encR p w) :
    Calls Tryz.prog 144 #[.string s, .func (.func g) #[] lb] w fun e w' => e = .returned (.int .i64 (Lib.idxFunc p true s)) ∧ Below w.heap.size w w' := Any.strings_IndexFunc Tryz.laysGw15 g lb eg p s w hp
def Tryz.lays99_ren : Go.Shelf.Ren := ⟨fun | 99 => 52 | 206 => 72 | n => n, fun | 9 => 9 | 4 => 4 | 3 => 3 | n => n, fun | n => n⟩
theorem Tryz.lays99 : Go.Proofs.Lays.n99 Tryz.prog Tryz.lays99_ren := {
  mixed := by kernel_rfl
  f99 := Tryz.func52.trans (congrArg some (by kernel_rfl))
  f206 := Tryz.func72.trans (congrArg some (by kernel_rfl))
  t3 := Tryz.underlying3
  a3 := Tryz.isAgg3
  z3 := Tryz.sizeOf3
  v3 := Tryz.zeroValue3
  t4 := Tryz.underlying4
  a4 := Tryz.isAgg4
  z4 := Tryz.sizeOf4
  v4 := Tryz.zeroValue4
  t9 := Tryz.underlying9
  a9 := Tryz.isAgg9
  z9 := Tryz.sizeOf9
  v9 := Tryz.zeroValue9 }
open Go.RowKit Go.Lib in
theorem Tryz.strings_HasPrefix (s p : ByteArray) (w : World) :
    Calls Tryz.prog 52 #[.string s, .string p] w fun e w' => e = .returned (.bool (Lib.hasPrefix s.data.toList p.data.toList)) ∧ w' = w := Any.strings_HasPrefix Tryz.lays99 s p w
def Tryz.lays101_ren : Go.Shelf.Ren := ⟨fun | 101 => 56 | 208 => 75 | 206 => 72 | n => n, fun | 9 => 9 | 4 => 4 | 3 => 3 | n => n, fun | n => n⟩
theorem Tryz.lays101 : Go.Proofs.Lays.n101 Tryz.prog Tryz.lays101_ren := {
  mixed := by kernel_rfl
  f101 := Tryz.func56.trans (congrArg some (by kernel_rfl))
  f206 := Tryz.func72.trans (congrArg some (by kernel_rfl))
  f208 := Tryz.func75.trans (congrArg some (by kernel_rfl))
  t3 := Tryz.underlying3
  a3 := Tryz.isAgg3
  z3 := Tryz.sizeOf3
  v3 := Tryz.zeroValue3
  t4 := Tryz.underlying4
  a4 := Tryz.isAgg4
  z4 := Tryz.sizeOf4
  v4 := Tryz.zeroValue4
  t9 := Tryz.underlying9
  a9 := Tryz.isAgg9
  z9 := Tryz.sizeOf9
  v9 := Tryz.zeroValue9 }
open Go.RowKit Go.Lib in
theorem Tryz.strings_TrimPrefix (s p : ByteArray) (w : World) :
    Calls Tryz.prog 56 #[.string s, .string p] w fun e w' => e = .returned (.string ⟨(Lib.trimPrefix s.data.toList p.data.toList).toArray⟩) ∧ w' = w := Any.strings_TrimPrefix Tryz.lays101 s p w
end Go.Proofs
/- The name in a class. -/
namespace Go.Proofs.YtjbdoeoimodhkaaGreatDoor
open Go.RowKit Go.Maps

def notLow (r : Nat) : Bool := decide (r < 97) || decide (122 < r)
theorem notLow_byte (b : UInt8) : notLow b.toNat = !isLow b := by
  unfold notLow isLow
  by_cases h1 : b.toNat < 97 <;> by_cases h2 : 122 < b.toNat <;> simp [h1, h2] <;> omega
theorem low_from (s : ByteArray) : ∀ (f pos : Nat), s.size ≤ pos + f → (Lib.idxFuncFrom notLow true s f pos = -1 ↔ ∀ j (h : j < s.size), pos ≤ j → isLow s[j] = true) := by
  intro f
  induction f with
  | zero =>
    intro pos h
    exact ⟨fun _ j hj hp => by omega, fun _ => rfl⟩
  | succ f ih =>
    intro pos h
    unfold Lib.idxFuncFrom
    by_cases hp : pos < s.size
    · rw [if_pos hp]
      by_cases ha : (s[pos]'hp).toNat < 128
      · rw [decode_ascii s pos hp ha]
        show (if notLow s[pos].toNat = true then (pos : Int) else Lib.idxFuncFrom notLow true s f (pos + 1)) = -1 ↔ _
        cases hl : isLow s[pos] with
        | true =>
          have hn : notLow s[pos].toNat = false := by rw [notLow_byte, hl]; rfl
          rw [if_neg (by rw [hn]; simp), ih (pos + 1) (by omega)]
          constructor
          · intro hh j hj hpj
            by_cases e : j = pos
            · subst e; exact hl
            · exact hh j hj (by omega)
          · intro hh j hj hpj
            exact hh j hj (by omega)
        | false =>
          have hn : notLow s[pos].toNat = true := by rw [notLow_byte, hl]; rfl
          rw [if_pos hn]
          constructor
          · intro e; omega
          · intro hh
            have := hh pos hp (Nat.le_refl _)
            rw [hl] at this
            cases this
      · have hd := (decode_high s pos hp (by omega)).1
        have hn : notLow (Utf8.decode s pos).1 = true := by unfold notLow; simp; omega
        rw [if_pos hn]
        constructor
        · intro e; omega
        · intro hh
          have := hh pos hp (Nat.le_refl _)
          unfold isLow at this
          simp at this
          omega
    · rw [if_neg hp]
      exact ⟨fun _ j hj hpj => by omega, fun _ => rfl⟩
theorem low_idx (s : ByteArray) : Lib.idxFunc notLow true s < 0 ↔ ∀ b ∈ s.data.toList, isLow b = true := by
  have h1 : Lib.idxFunc notLow true s < 0 ↔ Lib.idxFunc notLow true s = -1 := by
    rcases Lib.idxFunc_range notLow true s with h | ⟨h, _⟩
    · rw [h]; decide
    · constructor <;> intro <;> omega
  rw [h1]
  unfold Lib.idxFunc
  rw [low_from s s.size 0 (by omega)]
  constructor
  · intro h b hb
    obtain ⟨j, hj, rfl⟩ := List.getElem_of_mem hb
    exact h j (by simpa using hj) (Nat.zero_le _)
  · intro h j hj _
    exact h _ (by
      have : s[j] = s.data.toList[j]'(by simpa using hj) := rfl
      rw [this]
      exact List.getElem_mem _)
theorem occ_two {l : List UInt8} {i : Nat} : Lib.occAt l [58, 93] i = true ↔ (l.drop i).take 2 = [58, 93] := by
  unfold Lib.occAt
  rw [List.isPrefixOf_iff_prefix]
  constructor
  · rintro ⟨t, ht⟩; rw [← ht]; simp
  · intro h; exact ⟨(l.drop i).drop 2, by rw [← h, List.take_append_drop]⟩
/-- What the program asks of a text, and the class's name. -/
def nameB (l : List UInt8) : List UInt8 := (Lib.cut (Lib.trimPrefix l [91, 58]) [58, 93]).1
def askB (l : List UInt8) : Bool := Lib.hasPrefix l [91, 58] && (Lib.cut (Lib.trimPrefix l [91, 58]) [58, 93]).2.2 && !(nameB l).isEmpty && (nameB l).all isLow
theorem take_while_all {r : List UInt8} {i : Nat} (hi : i ≤ r.length) (h1 : (r.take i).all isLow = true) (h2 : ∀ c, r[i]? = some c → isLow c = false) : r.takeWhile isLow = r.take i := by
  induction r generalizing i with
  | nil => simp
  | cons c r ih =>
    match i with
    | 0 =>
      have := h2 c rfl
      simp [this]
    | i + 1 =>
      simp only [List.take_succ_cons, List.all_cons, Bool.and_eq_true] at h1
      rw [List.takeWhile_cons, h1.1]
      simp only [if_true, List.take_succ_cons]
      rw [ih (i := i) (by simpa using hi) h1.2 (fun d hd => h2 d (by simpa using hd))]
theorem ask_name (l : List UInt8) : (askB l = true → className l = some (nameB l)) ∧ (askB l = false → className l = none) := by
  have key : className l = if askB l = true then some (nameB l) else none := by
    unfold className askB nameB Lib.trimPrefix
    cases hp : Lib.hasPrefix l [91, 58] with
    | false =>
      have : ¬ l.take 2 = [91, 58] := by
        intro e
        have : Lib.hasPrefix l [91, 58] = true := by
          unfold Lib.hasPrefix
          rw [List.isPrefixOf_iff_prefix]
          exact ⟨l.drop 2, by rw [← e, List.take_append_drop]⟩
        rw [hp] at this
        cases this
      rw [if_neg (fun h => this h.1)]
      simp
    | true =>
      have e2 : l.take 2 = [91, 58] := by
        unfold Lib.hasPrefix at hp
        rw [List.isPrefixOf_iff_prefix] at hp
        obtain ⟨t, rfl⟩ := hp
        simp
      simp only [if_true, Bool.true_and, List.length_cons, List.length_nil]
      obtain ⟨r, hr⟩ : ∃ r, l.drop 2 = r := ⟨_, rfl⟩
      rw [hr]
      rcases Lib.index_spec r [58, 93] with ⟨hi, hno⟩ | ⟨i, hi, hil, hocc, hfirst⟩
      · have hcut : Lib.cut r [58, 93] = (r, [], false) := by unfold Lib.cut; rw [if_neg (by omega)]
        rw [hcut]
        simp only [Bool.false_and, Bool.false_eq_true, if_false]
        rw [if_neg]
        rintro ⟨_, _, h3⟩
        have h4 := hno (r.takeWhile isLow).length (List.takeWhile_prefix isLow |>.length_le)
        have h5 := occ_two.2 h3
        rw [h4] at h5
        cases h5
      · have hcut : Lib.cut r [58, 93] = (r.take i, r.drop (i + 2), true) := by
          unfold Lib.cut
          rw [if_pos (by omega), hi]
          rfl
        rw [hcut]
        simp only [Bool.true_and]
        have h58 : r[i]? = some 58 := by
          have := occ_two.1 hocc
          have h2 : ((r.drop i).take 2)[0]? = some 58 := by rw [this]; rfl
          rw [List.getElem?_take_of_lt (by decide), List.getElem?_drop] at h2
          simpa using h2
        cases hall : (r.take i).all isLow with
        | true =>
          have ht := take_while_all hil hall (fun c hc => by rw [h58] at hc; cases hc; rfl)
          rw [ht]
          have hl : (r.take i).length = i := by rw [List.length_take]; omega
          rw [hl]
          by_cases hem : r.take i = []
          · rw [hem]
            simp
          · have : (r.take i).isEmpty = false := by simpa using hem
            rw [this]
            rw [if_pos ⟨e2, hem, occ_two.1 hocc⟩]
            simp
        | false =>
          simp only [Bool.and_false, Bool.false_eq_true, if_false]
          rw [if_neg]
          rintro ⟨_, _, h3⟩
          have hk := occ_two.2 h3
          have hkl : (r.takeWhile isLow).length ≤ r.length := List.takeWhile_prefix isLow |>.length_le
          have hik : i ≤ (r.takeWhile isLow).length := by
            by_cases hh : (r.takeWhile isLow).length < i
            · have := hfirst _ hh
              rw [hk] at this
              cases this
            · omega
          have : (r.take i).all isLow = true := by
            rw [List.all_eq_true]
            intro b hb
            have hpre : r.take i = (r.takeWhile isLow).take i := by
              obtain ⟨t, ht⟩ := List.takeWhile_prefix (l := r) isLow
              conv => lhs; rw [← ht]
              rw [List.take_append_of_le_length hik]
            rw [hpre] at hb
            have hat := List.all_takeWhile (p := isLow) (l := r)
            rw [List.all_eq_true] at hat
            exact hat b (List.mem_of_mem_take hb)
          rw [hall] at this
          cases this
  constructor
  · intro h; rw [key, if_pos h]
  · intro h; rw [key, h]; rfl
/-- internal/bytealg.MaxLen holds some number. -/
def MaxW (w : World) : Prop := ∃ m, w.cell? ⟨6, 0, none⟩ = some (.int .i64 m)
theorem MaxW.below {B : Nat} {w w' : World} (h : MaxW w) (hB : 6 < B) (hb : Below B w w') : MaxW w' := by
  obtain ⟨m, hm⟩ := h
  exact ⟨m, (hb.cell (p := ⟨6, 0, none⟩) hB).trans hm⟩
theorem isLow_pred (w : World) : PredAt Tryz.prog 145 #[] encR notLow w := fun W r _ => by
  unfold FnGives
  by_cases h1 : r < 97 <;> by_cases h2 : 122 < r
  all_goals
    have z1 : (r : Int) < 97 ↔ r < 97 := by omega
    have z2 : (122 : Int) < (r : Int) ↔ 122 < r := by omega
    go_enter Tryz.func145, Tryz.ntmps145
    go_wp2
    all_goals first | (exfalso; omega) | (go_ret; exact ⟨by simp [notLow, h1, h2], 0, rfl⟩)
set_option maxRecDepth 100000 in
set_option maxHeartbeats 1000000 in
theorem className_any (s : ByteArray) (w : World) (hs : s.size ≤ 1000000000) (hM : MaxW w) :
    Calls Tryz.prog 135 #[.string s] w fun e w' => e = .returned (.tuple #[.string ⟨(nameB s.data.toList).toArray⟩, .bool (askB s.data.toList)]) ∧ Below w.heap.size w w' := by
  obtain ⟨m, hm⟩ := hM
  have c1 := Tryz.strings_CutPrefix s ⟨#[91, 58]⟩ w
  obtain ⟨r, hr⟩ : ∃ r : ByteArray, r = ⟨(Lib.trimPrefix s.data.toList [91, 58]).toArray⟩ := ⟨_, rfl⟩
  have hrl : r.data.toList = Lib.trimPrefix s.data.toList [91, 58] := by rw [hr]
  have hrs : r.size < 4294967281 := by
    rw [hr]
    show (Lib.trimPrefix s.data.toList [91, 58]).toArray.size < _
    rw [List.size_toArray]
    have : (Lib.trimPrefix s.data.toList [91, 58]).length ≤ s.size := by
      unfold Lib.trimPrefix
      split
      · simp
      · simp
    omega
  have c2 := Tryz.strings_Cut r ⟨#[58, 93]⟩ m w hrs hm
  obtain ⟨n, hn⟩ : ∃ n : ByteArray, n = ⟨(nameB s.data.toList).toArray⟩ := ⟨_, rfl⟩
  have hnl : n.data.toList = nameB s.data.toList := by rw [hn]
  have hn2 : (⟨(Lib.cut r.data.toList [58, 93]).1.toArray⟩ : ByteArray) = n := by rw [hn, hrl]; rfl
  obtain ⟨op, hop⟩ : ∃ op, Lib.hasPrefix s.data.toList [91, 58] = op := ⟨_, rfl⟩
  obtain ⟨cl, hcl⟩ : ∃ cl, (Lib.cut r.data.toList [58, 93]).2.2 = cl := ⟨_, rfl⟩
  simp only at c1 c2
  rw [← hr, hop] at c1
  rw [hn2, hcl] at c2
  have c3 := fun (W : World) => Tryz.strings_IndexFunc 145 #[] (enters_of Tryz.func145 (by kernel_rfl) rfl) notLow n W (isLow_pred W)
  have hlow := low_idx n
  obtain ⟨ix, hix⟩ : ∃ ix, Lib.idxFunc notLow true n = ix := ⟨_, rfl⟩
  rw [hix] at hlow
  simp only [hix] at c3
  have hask : askB s.data.toList = (op && cl && !(nameB s.data.toList).isEmpty && (nameB s.data.toList).all isLow) := by
    unfold askB
    rw [hop]
    rw [← hrl, hcl]
  have hem : n.toList.isEmpty = (nameB s.data.toList).isEmpty := by
    rw [← hnl]
    rw [ByteArray.toList_eq]
  have hlt : decide (ix < 0) = (nameB s.data.toList).all isLow := by
    rw [Bool.eq_iff_iff, decide_eq_true_eq, hlow, hnl, List.all_eq_true]
  rw [← hn, hask]
  clear hask hlow hcl hop hn hnl hn2 hrl hr hix hrs hm
  generalize (nameB s.data.toList).isEmpty = em at hem ⊢
  generalize (nameB s.data.toList).all isLow = al at hlt ⊢
  cases op <;> cases cl <;> cases em
  all_goals
    go_enter Tryz.func135, Tryz.ntmps135
    go_wp2_with first
      | (go_at_call 53; refine c1.mono ?_; rintro e w1 ⟨rfl, rfl⟩)
      | (go_at_call 143; refine c2.mono ?_; rintro e w2 ⟨rfl, q, rfl⟩)
      | (go_at_call 144; refine (c3 _).mono ?_; rintro e w3 ⟨rfl, hb3⟩)
    all_goals exact bodyPost_ret (v := .tuple #[.string n, .bool _]) (by simp [results, Tryz.results135, go_sem]; rfl) rfl ⟨by simp, ⟨hb3.os, hb3.tape, hb3.output, hb3.size, hb3.block⟩⟩
end Go.Proofs.YtjbdoeoimodhkaaGreatDoor
