/- Walk: a builder that lies in the walker's block. -/
import Derived.Test.YtfemboojdablhaaGreatDoorTRef
import Derived.Test.YtfemboojdablhaaGreatDoorIbF
import Derived.Lib.Builder
import Derived.Lib.AppendStr
import Derived.Lib.UnsafeStr
import Derived.Lib.Slices
import Derived.Lib.Walk
import Derived.Laws.Externs
namespace Go.Proofs.YtfemboojdablhaaGreatDoor.Tre
open Go.RowKit Go.Shelf

/-- The walker's block. -/
def WkO (W : World) (b : Nat) (nv : Value) (deep : Bool) (mn mx ms : Int) (wv iv mv av : Value) (gone : Int) (pv bv tv : Value) : Prop :=
  W.heap[b]? = some (.cells #[nv, .bool false, .bool deep, .int .i64 mn, .int .i64 mx, .int .i64 ms, wv, iv, mv, av, .int .i64 gone, pv, bv, tv] 91 (0, 0))

theorem WkO.shape {W : World} {b : Nat} {nv : Value} {deep : Bool} {mn mx ms : Int} {wv iv mv av : Value} {gone : Int} {pv bv tv : Value} (h : WkO W b nv deep mn mx ms wv iv mv av gone pv bv tv) : W.shape? b = some (91, 14) := by
  unfold WkO at h
  simp [World.shape?, h]
theorem WkO.cell {W : World} {b : Nat} {nv : Value} {deep : Bool} {mn mx ms : Int} {wv iv mv av : Value} {gone : Int} {pv bv tv : Value} (h : WkO W b nv deep mn mx ms wv iv mv av gone pv bv tv) (i : Nat) : W.cell? ⟨b, i, none⟩ = #[nv, .bool false, .bool deep, .int .i64 mn, .int .i64 mx, .int .i64 ms, wv, iv, mv, av, .int .i64 gone, pv, bv, tv][i]? := by
  unfold WkO at h
  simp [World.cell?, h]
theorem WkO.frozen {W : World} {b : Nat} {nv : Value} {deep : Bool} {mn mx ms : Int} {wv iv mv av : Value} {gone : Int} {pv bv tv : Value} (h : WkO W b nv deep mn mx ms wv iv mv av gone pv bv tv) (i : Nat) : W.frozen? ⟨b, i, none⟩ = false := Lib.frozen_of_heap h i
theorem WkO.lt {W : World} {b : Nat} {nv : Value} {deep : Bool} {mn mx ms : Int} {wv iv mv av : Value} {gone : Int} {pv bv tv : Value} (h : WkO W b nv deep mn mx ms wv iv mv av gone pv bv tv) : b < W.heap.size := (Array.getElem?_eq_some_iff.1 h).1

theorem Tryz.size89 : (Tryz.prog.info? 89).map (·.size) = some 2 := by kernel_rfl
theorem Tryz.lies89 : liesAt Tryz.prog Tryz.prog.depth 91 (14 / Tryz.prog.cellsOf 91) 11 89 1 = true := by kernel_rfl

set_option maxRecDepth 100000 in
set_option maxHeartbeats 1000000 in
theorem wcopy_used (b : Nat) (w : World) (h0 : w.cell? ⟨b, 11, none⟩ = some (.pointer (some ⟨b, 11, none⟩))) :
    Calls Tryz.prog 115 #[.pointer (some ⟨b, 11, none⟩)] w fun e w' => e = .returned (.tuple #[]) ∧ w' = w := by
  obtain ⟨j, hj, _⟩ := Option.map_eq_some_iff.1 Tryz.size89
  go_enter Tryz.func115, Tryz.ntmps115
  go_wp2
  rw [Lib.run_neq_ptr_same w _ Tryz.underlying86 hj]
  go_wp2
  go_end0
  exact ⟨rfl, rfl⟩
set_option maxRecDepth 100000 in
set_option maxHeartbeats 1000000 in
theorem wcopy_fresh (b : Nat) (w : World) (h0 : w.cell? ⟨b, 11, none⟩ = some (.pointer none)) (hsh : w.shape? b = some (91, 14)) (hfz : w.frozen? ⟨b, 11, none⟩ = false) :
    Calls Tryz.prog 115 #[.pointer (some ⟨b, 11, none⟩)] w fun e w' => e = .returned (.tuple #[]) ∧ w' = w.setCell ⟨b, 11, none⟩ (.pointer (some ⟨b, 11, none⟩)) := by
  obtain ⟨j, hj, hjs⟩ := Option.map_eq_some_iff.1 Tryz.size89
  go_enter Tryz.func115, Tryz.ntmps115
  go_wp2
  rw [Lib.run_to_unsafe w ⟨b, 11, none⟩ Tryz.underlying86 Tryz.underlying200 hj (by rw [hjs]; decide) hsh (show 11 < 14 from by decide)]
  simp only [Result.andThen]
  rw [Oper.upon_value]
  go_wp2
  rw [run_callFunc_extern Tryz.func137 (by kernel_rfl) (by kernel_rfl) (by kernel_rfl) (e := Extern.AbiNoEscape.same) (by kernel_rfl)]
  rw [Lib.run_noEscape]
  simp only [Result.andThen]
  rw [Oper.upon_value]
  go_wp2
  rw [Lib.run_from_unsafe w ⟨b, 11, none⟩ Tryz.underlying200 Tryz.underlying86 hj hsh Tryz.lies89]
  simp only [Result.andThen]
  rw [Oper.upon_value]
  go_wp2
  go_end0
  exact ⟨rfl, rfl⟩
end Go.Proofs.YtfemboojdablhaaGreatDoor.Tre
