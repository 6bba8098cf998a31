import Derived.Shelf.Small.Strs
import Derived.Shelf.Small.Wraps
import Derived.Shelf.Utf8.RuneCount
import Derived.Shelf.Strings.Search1
import Derived.Shelf.Strings.Search2
import Derived.Shelf.Strings.Search3
import Derived.Shelf.Strings.Cut
import Derived.Shelf.Strings.Count
import Derived.Shelf.LaysM
import Derived.Shelf.Strings.Shaped
import Derived.Shelf.GgClosure.StringsIndexFunc
import Derived.Ground.GgwProg
import Derived.Shelf.GgClosure.StringsIndexFuncTop
import Derived.Shelf.GgClosure.StringsRunes
import Derived.Shelf.Strings.Prefix
import Derived.Shelf.Strings.Split
import Derived.Shelf.Strings.SplitShaped
import Derived.Shelf.Unicode.Decode
import Derived.Shelf.Strings.RuneCount
import Derived.Shelf.Strings.Explode
import Derived.Shelf.Unicode.DecodeSlow
import Derived.Shelf.Unicode.DecodeAny
import Derived.Shelf.Strings.FuncGrows
import Derived.Test.YtiekhoehkgmbjaaDoorProg
import Derived.Test.YtiekhoehkgmbjaaDoorGbPlain
import Derived.Test.YtiekhoehkgmbjaaDoorABld
import Derived.Laws.RangeAny
/- What the library's functions answer, at this program: the shelf's contracts, laid. -/
namespace Go.Proofs
open Go.Shelf
def Tryd.lays137_ren : Go.Shelf.Ren := ⟨fun | 137 => 71 | 217 => 79 | 266 => 89 | n => n, fun | 9 => 9 | 5 => 5 | 3 => 3 | n => n, fun | n => n⟩
theorem Tryd.lays137 : Go.Proofs.Lays.n137 Tryd.prog Tryd.lays137_ren := {
  mixed := by kernel_rfl
  f137 := Tryd.func71.trans (congrArg some (by kernel_rfl))
  f217 := Tryd.func79.trans (congrArg some (by kernel_rfl))
  f266 := Tryd.func89.trans (congrArg some (by kernel_rfl))
  t3 := Tryd.underlying3
  a3 := Tryd.isAgg3
  z3 := Tryd.sizeOf3
  v3 := Tryd.zeroValue3
  t5 := Tryd.underlying5
  a5 := Tryd.isAgg5
  z5 := Tryd.sizeOf5
  v5 := Tryd.zeroValue5
  t9 := Tryd.underlying9
  a9 := Tryd.isAgg9
  z9 := Tryd.sizeOf9
  v9 := Tryd.zeroValue9 }
open Go.RowKit in
theorem Tryd.strings_IndexByte (s : ByteArray) (c : Int) (w : World) :
    Calls Tryd.prog 71 #[.string s, .int .u8 c] w fun e w' => e = .returned (.int .i64 (Lib.indexByte s.data.toList c.toNat.toUInt8)) ∧ w' = w := Any.strings_IndexByte Tryd.lays137 s c w
def Tryd.lays103_ren : Go.Shelf.Ren := ⟨fun | 103 => 90 | 210 => 100 | 206 => 73 | n => n, fun | 9 => 9 | 4 => 4 | 24 => 125 | 3 => 3 | n => n, fun | n => n⟩
theorem Tryd.lays103 : Go.Proofs.Lays.n103 Tryd.prog Tryd.lays103_ren := {
  mixed := by kernel_rfl
  f103 := Tryd.func90.trans (congrArg some (by kernel_rfl))
  f206 := Tryd.func73.trans (congrArg some (by kernel_rfl))
  f210 := Tryd.func100.trans (congrArg some (by kernel_rfl))
  t3 := Tryd.underlying3
  a3 := Tryd.isAgg3
  z3 := Tryd.sizeOf3
  v3 := Tryd.zeroValue3
  t4 := Tryd.underlying4
  a4 := Tryd.isAgg4
  z4 := Tryd.sizeOf4
  v4 := Tryd.zeroValue4
  t9 := Tryd.underlying9
  a9 := Tryd.isAgg9
  z9 := Tryd.sizeOf9
  v9 := Tryd.zeroValue9
  t24 := Tryd.underlying125
  a24 := Tryd.isAgg125
  z24 := Tryd.sizeOf125
  v24 := Tryd.zeroValue125 }
open Go.RowKit in
theorem Tryd.strings_CutPrefix (s p : ByteArray) (w : World) :
    Calls Tryd.prog 90 #[.string s, .string p] w fun e w' => e = .returned (.tuple #[.string ⟨(Lib.trimPrefix s.data.toList p.data.toList).toArray⟩, .bool (Lib.hasPrefix s.data.toList p.data.toList)]) ∧ w' = w := Any.strings_CutPrefix Tryd.lays103 s p w
def Tryd.lays145_ren : Go.Shelf.Ren := ⟨fun | 145 => 91 | 220 => 101 | 219 => 87 | 217 => 79 | 225 => 97 | 224 => 98 | 267 => 99 | 266 => 89 | 314 => 105 | n => n, fun | 9 => 9 | 4 => 4 | 59 => 167 | 3 => 3 | 5 => 5 | 46 => 99 | 146 => 181 | 51 => 180 | n => n, fun | 1 => 1 | n => n⟩
theorem Tryd.lays145 : Go.Proofs.Lays.n145 Tryd.prog Tryd.lays145_ren := {
  mixed := by kernel_rfl
  f145 := Tryd.func91.trans (congrArg some (by kernel_rfl))
  f217 := Tryd.func79.trans (congrArg some (by kernel_rfl))
  f219 := Tryd.func87.trans (congrArg some (by kernel_rfl))
  f220 := Tryd.func101.trans (congrArg some (by kernel_rfl))
  f224 := Tryd.func98.trans (congrArg some (by kernel_rfl))
  f225 := Tryd.func97.trans (congrArg some (by kernel_rfl))
  f266 := Tryd.func89.trans (congrArg some (by kernel_rfl))
  f267 := Tryd.func99.trans (congrArg some (by kernel_rfl))
  f314 := Tryd.func105.trans (congrArg some (by kernel_rfl))
  t3 := Tryd.underlying3
  a3 := Tryd.isAgg3
  z3 := Tryd.sizeOf3
  v3 := Tryd.zeroValue3
  t4 := Tryd.underlying4
  a4 := Tryd.isAgg4
  z4 := Tryd.sizeOf4
  v4 := Tryd.zeroValue4
  t5 := Tryd.underlying5
  a5 := Tryd.isAgg5
  z5 := Tryd.sizeOf5
  v5 := Tryd.zeroValue5
  t9 := Tryd.underlying9
  a9 := Tryd.isAgg9
  z9 := Tryd.sizeOf9
  v9 := Tryd.zeroValue9
  t46 := Tryd.underlying99
  a46 := Tryd.isAgg99
  z46 := Tryd.sizeOf99
  v46 := Tryd.zeroValue99
  t51 := Tryd.underlying180
  a51 := Tryd.isAgg180
  z51 := Tryd.sizeOf180
  v51 := Tryd.zeroValue180
  t59 := Tryd.underlying167
  a59 := Tryd.isAgg167
  z59 := Tryd.sizeOf167
  v59 := Tryd.zeroValue167
  t146 := Tryd.underlying181
  a146 := Tryd.isAgg181
  z146 := Tryd.sizeOf181
  v146 := Tryd.zeroValue181
  g1 := by kernel_rfl }
open Go.RowKit Go.Lib in
theorem Tryd.strings_Cut (s sep : ByteArray) (m : Int) (w : World) (hs : s.size < 4294967281) (hm : w.cell? ⟨1, 0, none⟩ = some (.int .i64 m)) :
    Calls Tryd.prog 91 #[.string s, .string sep] w fun e w' => e = .returned (.tuple #[.string ⟨(Lib.cut s.data.toList sep.data.toList).1.toArray⟩, .string ⟨(Lib.cut s.data.toList sep.data.toList).2.1.toArray⟩, .bool (Lib.cut s.data.toList sep.data.toList).2.2]) ∧ ∃ n, w' = w.drewN n := Any.strings_Cut Tryd.lays145 s sep m w hs hm
def Tryd.laysGw15_ren : Go.Shelf.Ren := ⟨fun | 15 => 92 | 20 => 102 | n => n, fun | 9 => 9 | 23 => 170 | 3 => 3 | 4 => 4 | 0 => 0 | 21 => 21 | n => n, fun | n => n⟩
theorem Tryd.laysGw15 : Go.Proofs.LaysGw.n15 Tryd.prog Tryd.laysGw15_ren := {
  mixed := by kernel_rfl
  f15 := Tryd.func92.trans (congrArg some (by kernel_rfl))
  f20 := Tryd.func102.trans (congrArg some (by kernel_rfl))
  t0 := Tryd.underlying0
  a0 := Tryd.isAgg0
  z0 := Tryd.sizeOf0
  v0 := Tryd.zeroValue0
  i0 := by kernel_rfl
  t3 := Tryd.underlying3
  a3 := Tryd.isAgg3
  z3 := Tryd.sizeOf3
  v3 := Tryd.zeroValue3
  i3 := by kernel_rfl
  t4 := Tryd.underlying4
  a4 := Tryd.isAgg4
  z4 := Tryd.sizeOf4
  v4 := Tryd.zeroValue4
  i4 := by kernel_rfl
  t9 := Tryd.underlying9
  a9 := Tryd.isAgg9
  z9 := Tryd.sizeOf9
  v9 := Tryd.zeroValue9
  i9 := by kernel_rfl
  t21 := Tryd.underlying21
  a21 := Tryd.isAgg21
  z21 := Tryd.sizeOf21
  v21 := Tryd.zeroValue21
  i21 := by kernel_rfl
  t23 := Tryd.underlying170
  a23 := Tryd.isAgg170
  z23 := Tryd.sizeOf170
  v23 := Tryd.zeroValue170
  i23 := by kernel_rfl }
open Go.RowKit Go.Lib in
theorem Tryd.strings_IndexFunc (g : Nat) (lb : Array Value) (eg : ∀ args w, (callFunc g args).run Tryd.prog w = .ok (.enter g args) w) (p : Nat → Bool) (s : ByteArray) (w : World) (hp : PredAt Tryd.prog g lb encR p w) :
    Calls Tryd.prog 92 #[.string s, .func (.func g) #[] lb] w fun e w' => e = .returned (.int .i64 (Lib.idxFunc p true s)) ∧ Below w.heap.size w w' := Any.strings_IndexFunc Tryd.laysGw15 g lb eg p s w hp
def Tryd.lays99_ren : Go.Shelf.Ren := ⟨fun | 99 => 66 | 206 => 73 | n => n, fun | 9 => 9 | 4 => 4 | 3 => 3 | n => n, fun | n => n⟩
theorem Tryd.lays99 : Go.Proofs.Lays.n99 Tryd.prog Tryd.lays99_ren := {
  mixed := by kernel_rfl
  f99 := Tryd.func66.trans (congrArg some (by kernel_rfl))
  f206 := Tryd.func73.trans (congrArg some (by kernel_rfl))
  t3 := Tryd.underlying3
  a3 := Tryd.isAgg3
  z3 := Tryd.sizeOf3
  v3 := Tryd.zeroValue3
  t4 := Tryd.underlying4
  a4 := Tryd.isAgg4
  z4 := Tryd.sizeOf4
  v4 := Tryd.zeroValue4
  t9 := Tryd.underlying9
  a9 := Tryd.isAgg9
  z9 := Tryd.sizeOf9
  v9 := Tryd.zeroValue9 }
open Go.RowKit Go.Lib in
theorem Tryd.strings_HasPrefix (s p : ByteArray) (w : World) :
    Calls Tryd.prog 66 #[.string s, .string p] w fun e w' => e = .returned (.bool (Lib.hasPrefix s.data.toList p.data.toList)) ∧ w' = w := Any.strings_HasPrefix Tryd.lays99 s p w
def Tryd.lays146_ren : Go.Shelf.Ren := ⟨fun | 146 => 48 | 221 => 67 | 268 => 74 | 138 => 75 | 143 => 76 | 195 => 85 | 197 => 78 | 218 => 86 | 219 => 87 | 260 => 88 | 217 => 79 | 225 => 97 | 224 => 98 | 267 => 99 | 266 => 89 | 314 => 105 | n => n, fun | 9 => 9 | 31 => 100 | 3 => 3 | 4 => 4 | 0 => 0 | 105 => 155 | 21 => 21 | 5 => 5 | 46 => 99 | 119 => 174 | 139 => 177 | 138 => 176 | 146 => 181 | 51 => 180 | n => n, fun | 1 => 1 | 3 => 2 | 4 => 3 | n => n⟩
theorem Tryd.lays146 : Go.Proofs.Lays.n146 Tryd.prog Tryd.lays146_ren := {
  mixed := by kernel_rfl
  f138 := Tryd.func75.trans (congrArg some (by kernel_rfl))
  f143 := Tryd.func76.trans (congrArg some (by kernel_rfl))
  f146 := Tryd.func48.trans (congrArg some (by kernel_rfl))
  f195 := Tryd.func85.trans (congrArg some (by kernel_rfl))
  f197 := Tryd.func78.trans (congrArg some (by kernel_rfl))
  f217 := Tryd.func79.trans (congrArg some (by kernel_rfl))
  f218 := Tryd.func86.trans (congrArg some (by kernel_rfl))
  f219 := Tryd.func87.trans (congrArg some (by kernel_rfl))
  f221 := Tryd.func67.trans (congrArg some (by kernel_rfl))
  f224 := Tryd.func98.trans (congrArg some (by kernel_rfl))
  f225 := Tryd.func97.trans (congrArg some (by kernel_rfl))
  f260 := Tryd.func88.trans (congrArg some (by kernel_rfl))
  f266 := Tryd.func89.trans (congrArg some (by kernel_rfl))
  f267 := Tryd.func99.trans (congrArg some (by kernel_rfl))
  f268 := Tryd.func74.trans (congrArg some (by kernel_rfl))
  f314 := Tryd.func105.trans (congrArg some (by kernel_rfl))
  t0 := Tryd.underlying0
  a0 := Tryd.isAgg0
  z0 := Tryd.sizeOf0
  v0 := Tryd.zeroValue0
  t3 := Tryd.underlying3
  a3 := Tryd.isAgg3
  z3 := Tryd.sizeOf3
  v3 := Tryd.zeroValue3
  t4 := Tryd.underlying4
  a4 := Tryd.isAgg4
  z4 := Tryd.sizeOf4
  v4 := Tryd.zeroValue4
  t5 := Tryd.underlying5
  a5 := Tryd.isAgg5
  z5 := Tryd.sizeOf5
  v5 := Tryd.zeroValue5
  t9 := Tryd.underlying9
  a9 := Tryd.isAgg9
  z9 := Tryd.sizeOf9
  v9 := Tryd.zeroValue9
  t21 := Tryd.underlying21
  a21 := Tryd.isAgg21
  z21 := Tryd.sizeOf21
  v21 := Tryd.zeroValue21
  t31 := Tryd.underlying100
  a31 := Tryd.isAgg100
  z31 := Tryd.sizeOf100
  v31 := Tryd.zeroValue100
  t46 := Tryd.underlying99
  a46 := Tryd.isAgg99
  z46 := Tryd.sizeOf99
  v46 := Tryd.zeroValue99
  t51 := Tryd.underlying180
  a51 := Tryd.isAgg180
  z51 := Tryd.sizeOf180
  v51 := Tryd.zeroValue180
  t105 := Tryd.underlying155
  a105 := Tryd.isAgg155
  z105 := Tryd.sizeOf155
  v105 := Tryd.zeroValue155
  t119 := Tryd.underlying174
  a119 := Tryd.isAgg174
  z119 := Tryd.sizeOf174
  t138 := Tryd.underlying176
  a138 := Tryd.isAgg176
  z138 := Tryd.sizeOf176
  v138 := Tryd.zeroValue176
  t139 := Tryd.underlying177
  a139 := Tryd.isAgg177
  z139 := Tryd.sizeOf177
  v139 := Tryd.zeroValue177
  t146 := Tryd.underlying181
  a146 := Tryd.isAgg181
  z146 := Tryd.sizeOf181
  v146 := Tryd.zeroValue181
  g1 := by kernel_rfl
  g3 := by kernel_rfl
  g4 := by kernel_rfl }
open Go.RowKit Go.Lib in
theorem Tryd.strings_Split (s sep : ByteArray) (m : Int) (w : World) (hs : s.size < 4294967281) (hm : w.cell? ⟨1, 0, none⟩ = some (.int .i64 m)) (h1 : 1 ≤ sep.size) :
    Calls Tryd.prog 48 #[.string s, .string sep] w fun e w' =>
      e = .returned (.slice (some ⟨w.heap.size, 0, none⟩) (Lib.countB s sep + 1) (Lib.countB s sep + 1)) ∧ w' = w.alloc (.cells ((Lib.splitB sep 0 (Lib.countB s sep) s).map Value.string).toArray 9) := Any.strings_Split Tryd.lays146 (by kernel_rfl) s sep m w hs hm h1
end Go.Proofs
/- The name in a class. -/
namespace Go.Proofs.YtiekhoehkgmbjaaDoor
open Go.RowKit Go.Maps

def notLow (r : Nat) : Bool := decide (r < 97) || decide (122 < r)
theorem notLow_byte (b : UInt8) : notLow b.toNat = !isLow b := by
  unfold notLow isLow
  by_cases h1 : b.toNat < 97 <;> by_cases h2 : 122 < b.toNat <;> simp [h1, h2] <;> omega
theorem low_from (s : ByteArray) : ∀ (f pos : Nat), s.size ≤ pos + f → (Lib.idxFuncFrom notLow true s f pos = -1 ↔ ∀ j (h : j < s.size), pos ≤ j → isLow s[j] = true) := by
  intro f
  induction f with
  | zero =>
    intro pos h
    exact ⟨fun _ j hj hp => by omega, fun _ => rfl⟩
  | succ f ih =>
    intro pos h
    unfold Lib.idxFuncFrom
    by_cases hp : pos < s.size
    · rw [if_pos hp]
      by_cases ha : (s[pos]'hp).toNat < 128
      · rw [decode_ascii s pos hp ha]
        show (if notLow s[pos].toNat = true then (pos : Int) else Lib.idxFuncFrom notLow true s f (pos + 1)) = -1 ↔ _
        cases hl : isLow s[pos] with
        | true =>
          have hn : notLow s[pos].toNat = false := by rw [notLow_byte, hl]; rfl
          rw [if_neg (by rw [hn]; simp), ih (pos + 1) (by omega)]
          constructor
          · intro hh j hj hpj
            by_cases e : j = pos
            · subst e; exact hl
            · exact hh j hj (by omega)
          · intro hh j hj hpj
            exact hh j hj (by omega)
        | false =>
          have hn : notLow s[pos].toNat = true := by rw [notLow_byte, hl]; rfl
          rw [if_pos hn]
          constructor
          · intro e; omega
          · intro hh
            have := hh pos hp (Nat.le_refl _)
            rw [hl] at this
            cases this
      · have hd := (decode_high s pos hp (by omega)).1
        have hn : notLow (Utf8.decode s pos).1 = true := by unfold notLow; simp; omega
        rw [if_pos hn]
        constructor
        · intro e; omega
        · intro hh
          have := hh pos hp (Nat.le_refl _)
          unfold isLow at this
          simp at this
          omega
    · rw [if_neg hp]
      exact ⟨fun _ j hj hpj => by omega, fun _ => rfl⟩
theorem low_idx (s : ByteArray) : Lib.idxFunc notLow true s < 0 ↔ ∀ b ∈ s.data.toList, isLow b = true := by
  have h1 : Lib.idxFunc notLow true s < 0 ↔ Lib.idxFunc notLow true s = -1 := by
    rcases Lib.idxFunc_range notLow true s with h | ⟨h, _⟩
    · rw [h]; decide
    · constructor <;> intro <;> omega
  rw [h1]
  unfold Lib.idxFunc
  rw [low_from s s.size 0 (by omega)]
  constructor
  · intro h b hb
    obtain ⟨j, hj, rfl⟩ := List.getElem_of_mem hb
    exact h j (by simpa using hj) (Nat.zero_le _)
  · intro h j hj _
    exact h _ (by
      have : s[j] = s.data.toList[j]'(by simpa using hj) := rfl
      rw [this]
      exact List.getElem_mem _)
theorem occ_two {l : List UInt8} {i : Nat} : Lib.occAt l [58, 93] i = true ↔ (l.drop i).take 2 = [58, 93] := by
  unfold Lib.occAt
  rw [List.isPrefixOf_iff_prefix]
  constructor
  · rintro ⟨t, ht⟩; rw [← ht]; simp
  · intro h; exact ⟨(l.drop i).drop 2, by rw [← h, List.take_append_drop]⟩
/-- What the program asks of a text, and the class's name. -/
def nameB (l : List UInt8) : List UInt8 := (Lib.cut (Lib.trimPrefix l [91, 58]) [58, 93]).1
def askB (l : List UInt8) : Bool := Lib.hasPrefix l [91, 58] && (Lib.cut (Lib.trimPrefix l [91, 58]) [58, 93]).2.2 && !(nameB l).isEmpty && (nameB l).all isLow
theorem take_while_all {r : List UInt8} {i : Nat} (hi : i ≤ r.length) (h1 : (r.take i).all isLow = true) (h2 : ∀ c, r[i]? = some c → isLow c = false) : r.takeWhile isLow = r.take i := by
  induction r generalizing i with
  | nil => simp
  | cons c r ih =>
    match i with
    | 0 =>
      have := h2 c rfl
      simp [this]
    | i + 1 =>
      simp only [List.take_succ_cons, List.all_cons, Bool.and_eq_true] at h1
      rw [List.takeWhile_cons, h1.1]
      simp only [if_true, List.take_succ_cons]
      rw [ih (i := i) (by simpa using hi) h1.2 (fun d hd => h2 d (by simpa using hd))]
theorem ask_name (l : List UInt8) : (askB l = true → className l = some (nameB l)) ∧ (askB l = false → className l = none) := by
  have key : className l = if askB l = true then some (nameB l) else none := by
    unfold className askB nameB Lib.trimPrefix
    cases hp : Lib.hasPrefix l [91, 58] with
    | false =>
      have : ¬ l.take 2 = [91, 58] := by
        intro e
        have : Lib.hasPrefix l [91, 58] = true := by
          unfold Lib.hasPrefix
          rw [List.isPrefixOf_iff_prefix]
          exact ⟨l.drop 2, by rw [← e, List.take_append_drop]⟩
        rw [hp] at this
        cases this
      rw [if_neg (fun h => this h.1)]
      simp
    | true =>
      have e2 : l.take 2 = [91, 58] := by
        unfold Lib.hasPrefix at hp
        rw [List.isPrefixOf_iff_prefix] at hp
        obtain ⟨t, rfl⟩ := hp
        simp
      simp only [if_true, Bool.true_and, List.length_cons, List.length_nil]
      obtain ⟨r, hr⟩ : ∃ r, l.drop 2 = r := ⟨_, rfl⟩
      rw [hr]
      rcases Lib.index_spec r [58, 93] with ⟨hi, hno⟩ | ⟨i, hi, hil, hocc, hfirst⟩
      · have hcut : Lib.cut r [58, 93] = (r, [], false) := by unfold Lib.cut; rw [if_neg (by omega)]
        rw [hcut]
        simp only [Bool.false_and, Bool.false_eq_true, if_false]
        rw [if_neg]
        rintro ⟨_, _, h3⟩
        have h4 := hno (r.takeWhile isLow).length (List.takeWhile_prefix isLow |>.length_le)
        have h5 := occ_two.2 h3
        rw [h4] at h5
        cases h5
      · have hcut : Lib.cut r [58, 93] = (r.take i, r.drop (i + 2), true) := by
          unfold Lib.cut
          rw [if_pos (by omega), hi]
          rfl
        rw [hcut]
        simp only [Bool.true_and]
        have h58 : r[i]? = some 58 := by
          have := occ_two.1 hocc
          have h2 : ((r.drop i).take 2)[0]? = some 58 := by rw [this]; rfl
          rw [List.getElem?_take_of_lt (by decide), List.getElem?_drop] at h2
          simpa using h2
        cases hall : (r.take i).all isLow with
        | true =>
          have ht := take_while_all hil hall (fun c hc => by rw [h58] at hc; cases hc; rfl)
          rw [ht]
          have hl : (r.take i).length = i := by rw [List.length_take]; omega
          rw [hl]
          by_cases hem : r.take i = []
          · rw [hem]
            simp
          · have : (r.take i).isEmpty = false := by simpa using hem
            rw [this]
            rw [if_pos ⟨e2, hem, occ_two.1 hocc⟩]
            simp
        | false =>
          simp only [Bool.and_false, Bool.false_eq_true, if_false]
          rw [if_neg]
          rintro ⟨_, _, h3⟩
          have hk := occ_two.2 h3
          have hkl : (r.takeWhile isLow).length ≤ r.length := List.takeWhile_prefix isLow |>.length_le
          have hik : i ≤ (r.takeWhile isLow).length := by
            by_cases hh : (r.takeWhile isLow).length < i
            · have := hfirst _ hh
              rw [hk] at this
              cases this
            · omega
          have : (r.take i).all isLow = true := by
            rw [List.all_eq_true]
            intro b hb
            have hpre : r.take i = (r.takeWhile isLow).take i := by
              obtain ⟨t, ht⟩ := List.takeWhile_prefix (l := r) isLow
              conv => lhs; rw [← ht]
              rw [List.take_append_of_le_length hik]
            rw [hpre] at hb
            have hat := List.all_takeWhile (p := isLow) (l := r)
            rw [List.all_eq_true] at hat
            exact hat b (List.mem_of_mem_take hb)
          rw [hall] at this
          cases this
  constructor
  · intro h; rw [key, if_pos h]
  · intro h; rw [key, h]; rfl
/-- internal/bytealg.MaxLen holds some number. -/
def MaxW (w : World) : Prop := ∃ m, w.cell? ⟨1, 0, none⟩ = some (.int .i64 m)
theorem MaxW.below {B : Nat} {w w' : World} (h : MaxW w) (hB : 1 < B) (hb : Below B w w') : MaxW w' := by
  obtain ⟨m, hm⟩ := h
  exact ⟨m, (hb.cell (p := ⟨1, 0, none⟩) hB).trans hm⟩
theorem isLow_pred (w : World) : PredAt Tryd.prog 93 #[] encR notLow w := fun W r _ => by
  unfold FnGives
  by_cases h1 : r < 97 <;> by_cases h2 : 122 < r
  all_goals
    have z1 : (r : Int) < 97 ↔ r < 97 := by omega
    have z2 : (122 : Int) < (r : Int) ↔ 122 < r := by omega
    go_enter Tryd.func93, Tryd.ntmps93
    go_wp2
    all_goals first | (exfalso; omega) | (go_ret; exact ⟨by simp [notLow, h1, h2], 0, rfl⟩)
set_option maxRecDepth 100000 in
set_option maxHeartbeats 1000000 in
theorem className_any (s : ByteArray) (w : World) (hs : s.size ≤ 1000000000) (hM : MaxW w) :
    Calls Tryd.prog 80 #[.string s] w fun e w' => e = .returned (.tuple #[.string ⟨(nameB s.data.toList).toArray⟩, .bool (askB s.data.toList)]) ∧ Below w.heap.size w w' := by
  obtain ⟨m, hm⟩ := hM
  have c1 := Tryd.strings_CutPrefix s ⟨#[91, 58]⟩ w
  obtain ⟨r, hr⟩ : ∃ r : ByteArray, r = ⟨(Lib.trimPrefix s.data.toList [91, 58]).toArray⟩ := ⟨_, rfl⟩
  have hrl : r.data.toList = Lib.trimPrefix s.data.toList [91, 58] := by rw [hr]
  have hrs : r.size < 4294967281 := by
    rw [hr]
    show (Lib.trimPrefix s.data.toList [91, 58]).toArray.size < _
    rw [List.size_toArray]
    have : (Lib.trimPrefix s.data.toList [91, 58]).length ≤ s.size := by
      unfold Lib.trimPrefix
      split
      · simp
      · simp
    omega
  have c2 := Tryd.strings_Cut r ⟨#[58, 93]⟩ m w hrs hm
  obtain ⟨n, hn⟩ : ∃ n : ByteArray, n = ⟨(nameB s.data.toList).toArray⟩ := ⟨_, rfl⟩
  have hnl : n.data.toList = nameB s.data.toList := by rw [hn]
  have hn2 : (⟨(Lib.cut r.data.toList [58, 93]).1.toArray⟩ : ByteArray) = n := by rw [hn, hrl]; rfl
  obtain ⟨op, hop⟩ : ∃ op, Lib.hasPrefix s.data.toList [91, 58] = op := ⟨_, rfl⟩
  obtain ⟨cl, hcl⟩ : ∃ cl, (Lib.cut r.data.toList [58, 93]).2.2 = cl := ⟨_, rfl⟩
  simp only at c1 c2
  rw [← hr, hop] at c1
  rw [hn2, hcl] at c2
  have c3 := fun (W : World) => Tryd.strings_IndexFunc 93 #[] (enters_of Tryd.func93 (by kernel_rfl) rfl) notLow n W (isLow_pred W)
  have hlow := low_idx n
  obtain ⟨ix, hix⟩ : ∃ ix, Lib.idxFunc notLow true n = ix := ⟨_, rfl⟩
  rw [hix] at hlow
  simp only [hix] at c3
  have hask : askB s.data.toList = (op && cl && !(nameB s.data.toList).isEmpty && (nameB s.data.toList).all isLow) := by
    unfold askB
    rw [hop]
    rw [← hrl, hcl]
  have hem : n.toList.isEmpty = (nameB s.data.toList).isEmpty := by
    rw [← hnl]
    rw [ByteArray.toList_eq]
  have hlt : decide (ix < 0) = (nameB s.data.toList).all isLow := by
    rw [Bool.eq_iff_iff, decide_eq_true_eq, hlow, hnl, List.all_eq_true]
  rw [← hn, hask]
  clear hask hlow hcl hop hn hnl hn2 hrl hr hix hrs hm
  generalize (nameB s.data.toList).isEmpty = em at hem ⊢
  generalize (nameB s.data.toList).all isLow = al at hlt ⊢
  cases op <;> cases cl <;> cases em
  all_goals
    go_enter Tryd.func80, Tryd.ntmps80
    go_wp2_with first
      | (go_at_call 90; refine c1.mono ?_; rintro e w1 ⟨rfl, rfl⟩)
      | (go_at_call 91; refine c2.mono ?_; rintro e w2 ⟨rfl, q, rfl⟩)
      | (go_at_call 92; refine (c3 _).mono ?_; rintro e w3 ⟨rfl, hb3⟩)
    all_goals exact bodyPost_ret (v := .tuple #[.string n, .bool _]) (by simp [results, Tryd.results80, go_sem]; rfl) rfl ⟨by simp, ⟨hb3.os, hb3.tape, hb3.output, hb3.size, hb3.block⟩⟩
end Go.Proofs.YtiekhoehkgmbjaaDoor
