/- Sets of small numbers in machine words: newSet, has, add. -/
import Derived.Test.YtjbdoeoimodhkaaGreatDoorChecked
import Derived.Test.YtjbdoeoimodhkaaGreatDoorAPlain
import Derived.WalkKit
import Derived.ProofKit
import Derived.Maps.AppendAt
import Derived.Outline
import Derived.BigQuiet
import Derived.Deep.QuietTactic
import Derived.Laws.AppendOwn
import Derived.Laws.OwnMore
import Derived.Laws.Bits64b
import Derived.Laws.BitsLemmas
namespace Go.Proofs.YtjbdoeoimodhkaaGreatDoor
open Go.RowKit
theorem hide {p : Prop} (h : p) : Hid p := h
theorem unhide {p : Prop} (h : Hid p) : p := h
def u64s (ws : List Nat) : List Value := ws.map fun (x : Nat) => Value.int .u64 (x : Int)
theorem wraps_i64_62 (n : Int) (h₀ : 0 ≤ n) (h₁ : n < 2 ^ 62) : IntKind.i64.wrap n = n := by rw [IntKind.wrap_i64]; omega
theorem and63 (k : Nat) (hk : k ≤ 1000000000) : bits .and .i64 (k : Int) 63 = ((k % 64 : Nat) : Int) := by
  have h := bits_mask .i64 62 (by decide) wraps_i64_62 6 (by decide) (k : Int) (by omega) (by omega)
  have e : ((2 : Int) ^ 6 - 1) = 63 := by decide
  have e2 : ((2 : Int) ^ 6) = 64 := by decide
  rw [e, e2] at h
  rw [h]
  omega
theorem bit_is (x m : Nat) : (((x / 2 ^ m) &&& 1 : Nat) != 0) = x.testBit m := by
  rw [Nat.testBit, Nat.shiftRight_eq_div_pow, Nat.and_comm]
theorem pow_lt {m : Nat} (h : m < 64) : 2 ^ m < 18446744073709551616 := by
  have : (2 : Nat) ^ m < 2 ^ 64 := Nat.pow_lt_pow_right (by decide) h
  omega
theorem shr_word (x m : Nat) (hm : m < 64) : (x : Int) / 2 ^ min m 64 = ((x / 2 ^ m : Nat) : Int) := by
  rw [Nat.min_eq_left (by omega)]
  simp
theorem shl_word (m : Nat) (hm : m < 64) : IntKind.u64.wrap ((2 : Int) ^ min m 64) = ((2 ^ m : Nat) : Int) := by
  rw [Nat.min_eq_left (by omega), IntKind.wrap_u64]
  have hp := pow_lt hm
  have : ((2 : Int) ^ m) = ((2 ^ m : Nat) : Int) := by simp
  rw [this]
  generalize (2 : Nat) ^ m = q at hp ⊢
  omega
theorem has_word (x m : Nat) (hx : x < 18446744073709551616) (hm : m < 64) : (bits .and .u64 ((x : Int) / 2 ^ min m 64) 1 != 0) = x.testBit m := by
  rw [shr_word x m hm, show (1 : Int) = ((1 : Nat) : Int) from rfl, bits_and_u64_nat _ 1 (Nat.lt_of_le_of_lt (Nat.div_le_self _ _) hx) (by omega), ← bit_is, Bool.eq_iff_iff, bne_iff_ne, bne_iff_ne]
  omega
theorem or_word (x m : Nat) (hx : x < 18446744073709551616) (hm : m < 64) : bits .or .u64 (x : Int) (IntKind.u64.wrap ((2 : Int) ^ min m 64)) = ((x ||| 2 ^ m : Nat) : Int) := by
  rw [shl_word m hm, bits_or_u64_nat _ _ hx (pow_lt hm)]
set_option maxRecDepth 100000 in
set_option maxHeartbeats 400000 in
theorem has_cell (n c k x g : Nat) (w : World) (hk : k / 64 < n) (hkb : k ≤ 1000000000) (hx : w.cell? ⟨g, k / 64, none⟩ = some (.int .u64 (x : Int))) (hxb : x < 18446744073709551616) :
    Calls Tryz.prog 94 #[.slice (some ⟨g, 0, none⟩) n c, .int .i64 (k : Int)] w fun e w' => e = .returned (.bool (x.testBit (k % 64))) ∧ w' = w := by
  have h1 := and63 k hkb
  have HB := hide (has_word x (k % 64) hxb (by omega))
  obtain ⟨m, hm⟩ : ∃ m, k % 64 = m := ⟨_, rfl⟩
  rw [hm] at h1 HB ⊢
  clear hm
  go_enter Tryz.func94, Tryz.ntmps94
  go_wp2
  go_ret
  refine ⟨?_, rfl⟩
  show Ending.returned (.bool (bits .and .u64 ((x : Int) / 2 ^ min m 64) 1 != 0)) = _
  rw [HB.out]
set_option maxRecDepth 100000 in
set_option maxHeartbeats 400000 in
theorem add_cell (n c k x g : Nat) (w : World) (hk : k / 64 < n) (hkb : k ≤ 1000000000) (hx : w.cell? ⟨g, k / 64, none⟩ = some (.int .u64 (x : Int))) (hfz : w.frozen? ⟨g, k / 64, none⟩ = false) (hxb : x < 18446744073709551616) :
    Calls Tryz.prog 129 #[.slice (some ⟨g, 0, none⟩) n c, .int .i64 (k : Int)] w fun e w' => e = .returned (.tuple #[]) ∧ ∃ q, w' = (w.setCell ⟨g, k / 64, none⟩ (.int .u64 ((x ||| 2 ^ (k % 64) : Nat) : Int))).drewN q := by
  have h1 := and63 k hkb
  have HB := hide (or_word x (k % 64) hxb (by omega))
  obtain ⟨m, hm⟩ : ∃ m, k % 64 = m := ⟨_, rfl⟩
  rw [hm] at h1 HB ⊢
  clear hm
  go_enter Tryz.func129, Tryz.ntmps129
  go_wp2
  go_region
  first | refine bodyPost_ret (results_none rfl _ _ _) rfl ?_ | refine bodyPost_end (results_none rfl _ _ _) rfl ?_
  refine ⟨rfl, 1, ?_⟩
  rw [← HB.out]
  rfl

/-! ### Sets as rows of words -/
def inS (ws : List Nat) (k : Nat) : Bool := (ws.getD (k / 64) 0).testBit (k % 64)
def addS (ws : List Nat) (k : Nat) : List Nat := ws.set (k / 64) (ws.getD (k / 64) 0 ||| 2 ^ (k % 64))
theorem addS_length (ws : List Nat) (k : Nat) : (addS ws k).length = ws.length := List.length_set
theorem pow_bit (m j : Nat) : (2 ^ m).testBit j = decide (m = j) := Nat.testBit_two_pow
theorem inS_add {ws : List Nat} {k : Nat} (hk : k / 64 < ws.length) (j : Nat) : inS (addS ws k) j = (inS ws j || decide (k = j)) := by
  unfold inS addS
  by_cases h : k / 64 = j / 64
  · have e : (ws.set (k / 64) (ws.getD (k / 64) 0 ||| 2 ^ (k % 64))).getD (j / 64) 0 = ws.getD (k / 64) 0 ||| 2 ^ (k % 64) := by
      rw [← h, List.getD_eq_getElem?_getD, List.getElem?_set_self hk]
      rfl
    rw [e, Nat.testBit_or, pow_bit, h]
    congr 1
    rw [decide_eq_decide]
    omega
  · have e : (ws.set (k / 64) (ws.getD (k / 64) 0 ||| 2 ^ (k % 64))).getD (j / 64) 0 = ws.getD (j / 64) 0 := by
      rw [List.getD_eq_getElem?_getD, List.getElem?_set_ne h, ← List.getD_eq_getElem?_getD]
    have e2 : decide (k = j) = false := decide_eq_false (fun e => h (by rw [e]))
    rw [e, e2, Bool.or_false]
theorem inS_none (n j : Nat) : inS (List.replicate n 0) j = false := by
  unfold inS
  have : (List.replicate n 0).getD (j / 64) 0 = 0 := by
    rw [List.getD_eq_getElem?_getD, List.getElem?_replicate]
    split <;> rfl
  rw [this, Nat.zero_testBit]
/-- A set in a row of the call's own. -/
structure SetRow (B : Nat) (W : World) (v : Value) (ws : List Nat) : Prop where
  own : W.ownsRow B 204 1 v ws.length (u64s ws)
  lim : ∀ x ∈ ws, x < 18446744073709551616
theorem getD_lim {ws : List Nat} (h : ∀ x ∈ ws, x < 18446744073709551616) (i : Nat) : ws.getD i 0 < 18446744073709551616 := by
  rw [List.getD_eq_getElem?_getD]
  cases e : ws[i]? with
  | none => show 0 < _; omega
  | some x => exact h x (List.mem_of_getElem? e)
theorem SetRow.cell {B g m cap : Nat} {W : World} {ws : List Nat} (h : SetRow B W (.slice (some ⟨g, 0, none⟩) m cap) ws) {i : Nat} (hi : i < ws.length) : W.cell? ⟨g, i, none⟩ = some (.int .u64 ((ws.getD i 0 : Nat) : Int)) := by
  rcases h.own.2 with ⟨e, _⟩ | ⟨g', cap', cur, e, _, hg, hn, _, hs, ht⟩
  · cases e
  · cases e
    have e1 : (cur.toList.take (ws.length * 1))[i]? = some (.int .u64 ((ws.getD i 0 : Nat) : Int)) := by
      rw [ht]
      unfold u64s
      rw [List.getElem?_map, List.getElem?_eq_getElem hi, List.getD_eq_getElem?_getD, List.getElem?_eq_getElem hi]
      rfl
    rw [List.getElem?_take_of_lt (by omega)] at e1
    simp only [World.cell?, hg]
    simpa using e1
theorem own_set98 {B t size n m g cap i : Nat} {W : World} {xs : List Value} (h : W.ownsRow B t size (.slice (some ⟨g, 0, none⟩) m cap) n xs) (u : Value) : (W.setCell ⟨g, i, none⟩ u).ownsRow B t size (.slice (some ⟨g, 0, none⟩) m cap) n (xs.set i u) := by
  refine ⟨by rw [List.length_set]; exact h.1, ?_⟩
  rcases h.2 with ⟨e, _⟩ | ⟨g', cap', cur, e, hb, hg, hn, hm, hs, ht⟩
  · cases e
  · cases e
    obtain ⟨hlt, hk⟩ := Array.getElem?_eq_some_iff.1 hg
    refine .inr ⟨g, cap, cur.setIfInBounds i u, rfl, hb, ?_, hn, hm, by simpa using hs, ?_⟩
    · show (W.heap.modify g _)[g]? = _
      rw [Array.getElem?_eq_getElem (by rw [Array.size_modify]; exact hlt), Array.getElem_modify_self, hk]
      rfl
    · rw [Array.toList_setIfInBounds, List.take_set, ht]
theorem own_frozen {B t size n m g cap : Nat} {W : World} {xs : List Value} (h : W.ownsRow B t size (.slice (some ⟨g, 0, none⟩) m cap) n xs) (i : Nat) : W.frozen? ⟨g, i, none⟩ = false := by
  rcases h.2 with ⟨e, _⟩ | ⟨g', cap', cur, e, hb, hg, _⟩
  · cases e
  · cases e
    simp [World.frozen?, hg]
theorem SetRow.form {B : Nat} {W : World} {v : Value} {ws : List Nat} (h : SetRow B W v ws) (hp : 0 < ws.length) : ∃ g cap, v = .slice (some ⟨g, 0, none⟩) ws.length cap ∧ B ≤ g ∧ g < W.heap.size := by
  rcases h.own.2 with ⟨_, e⟩ | ⟨g, cap, cur, e, hb, hg, _⟩
  · omega
  · exact ⟨g, cap, e, hb, (Array.getElem?_eq_some_iff.1 hg).1⟩
theorem has_any {B : Nat} {v : Value} {ws : List Nat} (k : Nat) (w : World) (h : SetRow B w v ws) (hk : k / 64 < ws.length) (hkb : k ≤ 1000000000) :
    Calls Tryz.prog 94 #[v, .int .i64 (k : Int)] w fun e w' => e = .returned (.bool (inS ws k)) ∧ w' = w := by
  obtain ⟨g, cap, rfl, _⟩ := h.form (by omega)
  exact has_cell ws.length cap k (ws.getD (k / 64) 0) g w hk hkb (h.cell hk) (getD_lim h.lim _)
theorem set_grown (w : World) (g i : Nat) (u : Value) : w.grownBy (w.setCell ⟨g, i, none⟩ u) (some g) := by
  refine ⟨rfl, rfl, rfl, ?_, fun k hk hne => ?_⟩
  · show w.heap.size ≤ (w.heap.modify g _).size
    rw [Array.size_modify]; exact Nat.le_refl _
  · show (w.heap.modify g _)[k]? = _
    rw [Array.getElem?_modify, if_neg (fun e => hne (by rw [e]))]
theorem u64s_set (ws : List Nat) (i x : Nat) : (u64s ws).set i (.int .u64 (x : Int)) = u64s (ws.set i x) := by
  unfold u64s
  rw [List.map_set]
theorem add_any {B : Nat} {v : Value} {ws : List Nat} (k : Nat) (w : World) (h : SetRow B w v ws) (hk : k / 64 < ws.length) (hkb : k ≤ 1000000000) :
    Calls Tryz.prog 129 #[v, .int .i64 (k : Int)] w fun e w' => e = .returned (.tuple #[]) ∧ SetRow B w' v (addS ws k) ∧ w'.heap.size = w.heap.size ∧ w.grownBy w' v.ownBlock := by
  obtain ⟨g, cap, rfl, hB, hg⟩ := h.form (by omega)
  refine (add_cell ws.length cap k (ws.getD (k / 64) 0) g w hk hkb (h.cell hk) (own_frozen h.own _) (getD_lim h.lim _)).mono ?_
  rintro e w' ⟨rfl, q, rfl⟩
  refine ⟨rfl, ⟨?_, ?_⟩, ?_, ?_⟩
  · rw [addS_length]
    have := own_set98 (i := k / 64) h.own (.int .u64 ((ws.getD (k / 64) 0 ||| 2 ^ (k % 64) : Nat) : Int))
    rw [u64s_set] at this
    exact this
  · intro x hx
    rcases List.mem_or_eq_of_mem_set hx with hx | rfl
    · exact h.lim x hx
    · have h1 := getD_lim h.lim (k / 64)
      have h2 := pow_lt (m := k % 64) (by omega)
      have : ws.getD (k / 64) 0 ||| 2 ^ (k % 64) < 2 ^ 64 := Nat.or_lt_two_pow (by omega) (by omega)
      omega
  · show (w.heap.modify g _).size = _
    rw [Array.size_modify]
  · have hh := set_grown w g (k / 64) (Value.int .u64 ((ws.getD (k / 64) 0 ||| 2 ^ (k % 64) : Nat) : Int))
    exact ⟨hh.os, hh.tape, hh.output, hh.size, hh.block⟩
theorem Tryz.info204 : (Tryz.prog.info? 204).map (fun i => (i.zero, i.size, i.bytes)) = some (some (.int .u64 0), 1, 8) := by kernel_rfl
theorem Tryz.underlying158' : Tryz.prog.underlying 158 = some (.slice 204) := by kernel_rfl
def words (n : Nat) : Nat := (n + 63) / 64
theorem made_zero (n : Nat) : (madeCells (Value.int .u64 0).cells (n * 1)).toList = u64s (List.replicate n 0) := by
  apply List.ext_getElem?
  intro i
  unfold u64s
  rw [List.map_replicate, List.getElem?_replicate]
  show (madeCells #[Value.int .u64 0] (n * 1)).toList[i]? = _
  unfold madeCells
  rw [Nat.mul_one, Array.toList_map, List.getElem?_map, Array.toList_range]
  by_cases hi : i < n
  · rw [List.getElem?_range hi, if_pos hi]
    show some ((#[Value.int IntKind.u64 0] : Array Value)[i % 1]!) = _
    rw [Nat.mod_one]
    rfl
  · rw [List.getElem?_eq_none (by simp; omega), if_neg hi]
    rfl
set_option maxRecDepth 100000 in
set_option maxHeartbeats 400000 in
theorem newSet_any (n : Nat) (w : World) (hn : n ≤ 1000000) :
    Calls Tryz.prog 92 #[.int .i64 (n : Int)] w fun e w' => ∃ v, e = .returned v ∧ SetRow w.heap.size w' v (List.replicate (words n) 0) ∧ Below w.heap.size w w' := by
  obtain ⟨i0, hi, hz0, hz1, hz2⟩ := info_parts Tryz.info204
  obtain ⟨W, hmk, hown, hgr⟩ := run_makeSlice_full (P := Tryz.prog) (w := w) w.heap.size 158 204 i0 (.int .u64 0) 1 Tryz.underlying158' hi hz0 hz1 .i64 .i64 (words n) (by unfold words; omega) (by rw [hz2]; unfold words; omega) (by unfold words maxLen; omega) (Nat.le_refl _)
  have hN : ((n : Int) + 63) / 64 = ((words n : Nat) : Int) := by unfold words; omega
  have HOWN := hide hown
  have HGR := hide hgr
  obtain ⟨N, hNN⟩ : ∃ N, words n = N := ⟨_, rfl⟩
  rw [hNN] at hmk hN HOWN ⊢
  clear hown hgr hNN
  go_enter Tryz.func92, Tryz.ntmps92
  go_wp2
  go_ret
  refine ⟨_, rfl, ⟨?_, fun x hx => ?_⟩, ?_⟩
  · rw [List.length_replicate, ← made_zero]; exact HOWN.out
  · rw [List.mem_replicate] at hx; omega
  · have := HGR.out; exact ⟨this.os, this.tape, this.output, this.size, fun k hk => this.block k hk (fun e => by cases e)⟩
end Go.Proofs.YtjbdoeoimodhkaaGreatDoor
