/- Walk: the walker is made. -/
import Derived.Test.YtfemboojdablhaaGreatDoorWkM
import Derived.Laws.OwnMore
namespace Go.Proofs.YtfemboojdablhaaGreatDoor.Tre
open Go.RowKit Go.Shelf

theorem made_one (z : Value) (hz : z.cells = #[z]) (n : Nat) : madeCells z.cells (n * 1) = (List.replicate n z).toArray := by
  rw [Nat.mul_one]
  unfold madeCells
  have ef : (fun x : Nat => z.cells[x % z.cells.size]!) = fun _ => z := by
    funext x
    rw [hz]
    simp [Nat.mod_one]
  rw [ef]
  apply Array.ext'
  simp [List.map_const']
theorem make_any (t e : TypeId) (i0 : TypeInfo) (z : Value) (ht : Tryz.prog.underlying t = some (.slice e)) (hi : Tryz.prog.info? e = some i0) (hz0 : i0.zero = some z) (hz1 : i0.size = 1) (hz2 : i0.bytes ≤ 8) (hzc : z.cells = #[z]) (n : Nat) (hn : n ≤ 1000) (W : World) :
    (Instr.makeSlice t (.int .i64 (n : Int)) (.int .i64 (n : Int))).run Tryz.prog W = .ok (.slice (some ⟨W.heap.size, 0, none⟩) n n) (W.alloc (.cells (List.replicate n z).toArray e)) := by
  have h := run_make (P := Tryz.prog) W t e i0 z ht hi hz0 .i64 .i64 (n : Int) (n : Int) (by omega) (Int.le_refl _) (by have : i0.bytes * n ≤ 8 * 1000 := Nat.mul_le_mul hz2 hn; omega) (by omega)
  rw [hz1, Int.toNat_natCast, made_one z hzc] at h
  exact h
theorem Tryz.info3w : (Tryz.prog.info? 3).map (fun i => (i.zero, i.size, i.bytes)) = some (some (.int .i64 0), 1, 8) := by kernel_rfl
theorem Tryz.info4w : (Tryz.prog.info? 4).map (fun i => (i.zero, i.size, i.bytes)) = some (some (.bool false), 1, 1) := by kernel_rfl
theorem make_ints (n : Nat) (hn : n ≤ 1000) (W : World) : (Instr.makeSlice 40 (.int .i64 (n : Int)) (.int .i64 (n : Int))).run Tryz.prog W = .ok (.slice (some ⟨W.heap.size, 0, none⟩) n n) (W.alloc (.cells (List.replicate n (Value.int .i64 0)).toArray 3)) := by
  obtain ⟨i0, hi, hz0, hz1, hz2⟩ := info_parts Tryz.info3w
  exact make_any 40 3 i0 _ Tryz.underlying40 hi hz0 hz1 (by omega) rfl n hn W
theorem make_bools (n : Nat) (hn : n ≤ 1000) (W : World) : (Instr.makeSlice 83 (.int .i64 (n : Int)) (.int .i64 (n : Int))).run Tryz.prog W = .ok (.slice (some ⟨W.heap.size, 0, none⟩) n n) (W.alloc (.cells (List.replicate n (Value.bool false)).toArray 4)) := by
  obtain ⟨i0, hi, hz0, hz1, hz2⟩ := info_parts Tryz.info4w
  exact make_any 83 4 i0 _ Tryz.underlying83 hi hz0 hz1 (by omega) rfl n hn W

/-- The first k of them are set. -/
def meaK (n k : Nat) : List Value := (List.range k).map (fun (i : Nat) => Value.int .i64 (i : Int)) ++ List.replicate (n - k) (Value.int .i64 0)
theorem meaK_zero (n : Nat) : meaK n 0 = List.replicate n (Value.int .i64 0) := by simp [meaK]
theorem meaK_all (n : Nat) : meaK n n = meaL n := by simp [meaK, meaL]
theorem meaK_step {n k : Nat} (h : k < n) : (meaK n k).toArray.setIfInBounds k (.int .i64 (k : Int)) = (meaK n (k + 1)).toArray := by
  apply Array.ext'
  simp only [meaK, Array.toList_setIfInBounds]
  rw [List.set_append_right _ _ (by simp), List.length_map, List.length_range, Nat.sub_self, show n - k = (n - (k + 1)) + 1 from by omega, List.replicate_succ, List.set_cons_zero, List.range_succ, List.map_append]
  simp
set_option maxRecDepth 100000 in
set_option maxHeartbeats 2000000 in
theorem meant_any (a : Option Addr) (n cap : Nat) (hn : n ≤ 1000) (w : World) : Calls Tryz.prog 36 #[.slice a n cap, .bool false] w fun e w' => e = .returned (.slice (some ⟨w.heap.size, 0, none⟩) n n) ∧ w'.heap[w.heap.size]? = some (.cells (meaL n).toArray 3 (0, 0)) ∧ w'.heap.size = w.heap.size + 1 ∧ Below w.heap.size w w' := by
  have hmk := make_ints n hn
  have hb0 : (true : Bool) = true := rfl
  go_enter Tryz.func36, Tryz.ntmps36
  go_wp2
  obtain ⟨g, hg⟩ : ∃ g, w.heap.size = g := ⟨_, rfl⟩
  go_loopw [14] (fun iv wr => ∃ k : Nat, iv = .int .i64 (k : Int) ∧ k ≤ n ∧ wr.heap[w.heap.size]? = some (.cells (meaK n k).toArray 3 (0, 0)) ∧ wr.heap.size = w.heap.size + 1 ∧ Below w.heap.size w wr) (fun iv _ => n - (intOf iv).toNat)
  case atStart => exact ⟨0, rfl, Nat.zero_le _, by rw [meaK_zero]; exact World.alloc_heap_new w _, by simp, (Below.refl _ _).alloc (Nat.le_refl _) _⟩
  case round =>
    obtain ⟨k, rfl, hk, hh, hs, hb⟩ := hrel
    by_cases hlt : k < n
    · have hkI : (k : Int) < (n : Int) := by omega
      have b3 : decide ((k : Int) < (n : Int)) = true := by rw [decide_eq_true_eq]; omega
      have c0 : ∃ v, wr.cell? ⟨w.heap.size, k, none⟩ = some v := by
        rw [Lib.cell_of_heap hh]
        exact ⟨_, Array.getElem?_eq_getElem (by simp [meaK]; omega)⟩
      obtain ⟨v0, c0⟩ := c0
      have f0 : wr.frozen? ⟨w.heap.size, k, none⟩ = false := Lib.frozen_of_heap hh k
      have H1 : Hid ((wr.setCell ⟨w.heap.size, k, none⟩ (.int .i64 (k : Int))).heap[w.heap.size]? = some (.cells (meaK n (k + 1)).toArray 3 (0, 0))) := by
        rw [← meaK_step hlt]; exact wset_block hh
      have H2 := hide (⟨hs, hb⟩ : _ ∧ _)
      clear hh hs hb hg
      go_wp2
      go_roundw
      case rel => exact ⟨k + 1, by go_num, by omega, H1.out, by simp only [World.setCell, Array.size_modify]; exact H2.out.1, H2.out.2.setCell (p := ⟨w.heap.size, k, none⟩) (Nat.le_refl _) _⟩
      case measure => simp [intOf]; omega
    · have hke : k = n := by omega
      subst hke
      have b3 : decide ((k : Int) < (k : Int)) = false := by rw [decide_eq_false_iff_not]; omega
      rw [meaK_all] at hh
      have H2 := hide (⟨hh, hs, hb⟩ : _ ∧ _ ∧ _)
      clear hh hs hb hg
      go_wp2
      go_ret
      exact ⟨rfl, H2.out⟩
end Go.Proofs.YtfemboojdablhaaGreatDoor.Tre
