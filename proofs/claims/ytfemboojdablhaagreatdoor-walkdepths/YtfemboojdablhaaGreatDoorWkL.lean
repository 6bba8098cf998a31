/- Walk: the walker is made, for the test -true. -/
import Derived.Test.YtfemboojdablhaaGreatDoorWkK
import Derived.Deep.LoopGhost
namespace Go.Proofs.YtfemboojdablhaaGreatDoor.Tre
open Go.RowKit Go.Shelf

theorem go_all {L : List NodeD} {c : Cf} {K : List ByteArray} {test : Nat → Bool} {J : (Nat → Prop) → (Nat → Prop) → World → Prop} (hA : Asks L c test J) (hK : KInv L K) : ∀ f, GoC L c test J f
  | 0 => fun k p d n s t gone nn out ab pv bv tv E w _ hat hf => by have := (List.getElem?_eq_some_iff.1 hat.n).1; omega
  | f + 1 => goto_any hA hK.lim f (below_any hA hK.lim f (kids_any hA hK f (go_all hA hK f)))

def trueS : ByteArray := ⟨#[45, 116, 114, 117, 101]⟩
abbrev trueV : Value := .agg #[.string ⟨#[45, 116, 114, 117, 101]⟩, .string ⟨#[]⟩, .int .i64 0, .int .i64 0, .slice none 0 0]
set_option maxRecDepth 100000 in
set_option maxHeartbeats 1000000 in
theorem question_true (w : World) : Calls Tryz.prog 67 #[trueV] w fun e w' => e = .returned (.func (.func 95) #[] #[]) ∧ Below w.heap.size w w' := by
  go_enter Tryz.func67, Tryz.ntmps67
  go_wp2
  go_ret
  exact ⟨rfl, (Below.refl _ _).alloc (Nat.le_refl _) _⟩
set_option maxRecDepth 100000 in
set_option maxHeartbeats 1000000 in
theorem checkOf_true (b : Nat) (w : World) : Calls Tryz.prog 38 #[.pointer (some ⟨b, 0, none⟩), trueV] w fun e w' => e = .returned (.func (.func 95) #[] #[]) ∧ Below w.heap.size w w' := by
  obtain ⟨W1, hW1⟩ : ∃ W1, w.alloc (.cells #[.string ⟨#[45, 116, 114, 117, 101]⟩, .string ⟨#[]⟩, .int .i64 0, .int .i64 0, .slice none 0 0] 35) = W1 := ⟨_, rfl⟩
  have hb1 : Below w.heap.size w W1 := by rw [← hW1]; exact (Below.refl _ _).alloc (Nat.le_refl _) _
  have HB1 := hide hb1
  have HQ := hide (question_true W1)
  have hx : W1.heap[w.heap.size]? = some (.cells #[.string ⟨#[45, 116, 114, 117, 101]⟩, .string ⟨#[]⟩, .int .i64 0, .int .i64 0, .slice none 0 0] 35 (0, 0)) := by rw [← hW1]; exact World.alloc_heap_new w _
  have c0 : W1.cell? ⟨w.heap.size, 0, none⟩ = some (.string ⟨#[45, 116, 114, 117, 101]⟩) := by rw [Lib.cell_of_heap hx]; rfl
  have c1 : W1.cell? ⟨w.heap.size, 1, none⟩ = some (.string ⟨#[]⟩) := by rw [Lib.cell_of_heap hx]; rfl
  have c2 : W1.cell? ⟨w.heap.size, 2, none⟩ = some (.int .i64 0) := by rw [Lib.cell_of_heap hx]; rfl
  have c3 : W1.cell? ⟨w.heap.size, 3, none⟩ = some (.int .i64 0) := by rw [Lib.cell_of_heap hx]; rfl
  have c4 : W1.cell? ⟨w.heap.size, 4, none⟩ = some (.slice none 0 0) := by rw [Lib.cell_of_heap hx]; rfl
  have HW1 := hide hW1
  clear hW1 hb1 hx
  go_enter Tryz.func38, Tryz.ntmps38
  go_wp2_with (rw [HW1.out])
  go_wp2_with fail
  refine HQ.out.mono ?_
  rintro e w2 ⟨rfl, hb2⟩
  have HB2 := hide hb2
  clear hb2
  go_wp2
  go_ret
  exact ⟨rfl, HB1.out.trans (HB2.out.mono HB1.out.size)⟩
set_option maxRecDepth 100000 in
theorem isAction_true (w : World) : Calls Tryz.prog 68 #[.string ⟨#[45, 116, 114, 117, 101]⟩] w fun e w' => e = .returned (.bool false) ∧ w' = w := by
  go_enter Tryz.func68, Tryz.ntmps68
  go_wp2
  go_ret
  exact ⟨rfl, rfl⟩
set_option maxRecDepth 100000 in
theorem allOf_any (kv : Value) (w : World) (hk : ∃ g m cc, kv = .slice (some ⟨g, 0, none⟩) m cc) : Calls Tryz.prog 40 #[kv] w fun e w' => e = .returned (.func (.func 69) #[] #[.pointer (some ⟨w.heap.size, 0, none⟩)]) ∧ w' = w.alloc (.cells #[kv] 97) := by
  obtain ⟨g, m, cc, rfl⟩ := hk
  go_enter Tryz.func40, Tryz.ntmps40
  go_wp2
  go_ret
  exact ⟨rfl, rfl⟩
set_option maxRecDepth 100000 in
theorem print_any (b : Nat) (w : World) : Calls Tryz.prog 41 #[.pointer (some ⟨b, 0, none⟩), .int .u8 10] w fun e w' => e = .returned (.func (.func 70) #[] #[.pointer (some ⟨w.heap.size, 0, none⟩), .pointer (some ⟨w.heap.size + 1, 0, none⟩)]) ∧ w' = (w.alloc (.cells #[.pointer (some ⟨b, 0, none⟩)] 63)).alloc (.cells #[.int .u8 10] 5) := by
  go_enter Tryz.func41, Tryz.ntmps41
  go_wp2
  go_ret
  exact ⟨by simp, rfl⟩
end Go.Proofs.YtfemboojdablhaaGreatDoor.Tre
