/- Walk: what it has brought. -/
import Derived.Test.YtfemboojdablhaaGreatDoorWkQ
namespace Go.Proofs.YtfemboojdablhaaGreatDoor.Tre
open Go.RowKit Go.Shelf
variable {L : List NodeD} {c : Cf} {gone nn : Nat} {out : List UInt8} {ab : List Bool} {pv bv tv : Value}

theorem freeze_other {w : World} {g k n : Nat} (h : k ≠ g) : (w.freeze ⟨g, 0, none⟩ n).heap[k]? = w.heap[k]? := by
  unfold World.freeze
  split
  · rfl
  · simp only [Array.getElem?_modify]
    rw [if_neg (fun e => h e.symm)]
theorem Tryz.cells5 : Tryz.prog.cellsOf 5 = 1 := by kernel_rfl
set_option maxRecDepth 100000 in
set_option maxHeartbeats 2000000 in
theorem wstring_any (w : World) (h : WSt L c gone out ab pv bv tv nn w) (hlen : out.length ≤ 1000000000) :
    Calls Tryz.prog 47 #[.pointer (some ⟨c.b, 11, none⟩)] w fun e w' => e = .returned (.string ⟨out.toArray⟩) ∧ (∀ (k : Nat) (a : Array Value) (t : TypeId) (y : Nat × Nat), w.heap[k]? = some (.cells a t y) → t ≠ 5 → w'.heap[k]? = some (.cells a t y)) ∧ Below c.B w w' := by
  have hbk := h.blk
  have c1 : w.drew.cell? ⟨c.b, 12, none⟩ = some bv := h.blk.cell 12
  by_cases h0 : out = []
  · obtain rfl := h.emp h0
    subst h0
    have hUS : ∀ W q, (Builtin.unsafeString_ #[138, 3] 9 #[.pointer q, .int .i64 0]).run Tryz.prog W = .ok (.string .empty) W := fun W q => Lib.run_unsafeString_none W _ _ _ q
    have hSD : ∀ W : World, (Builtin.unsafeSliceData_ #[87] 138 #[.slice none 0 0]).run Tryz.prog W = .ok (.pointer none) W := fun W => rfl
    clear h hbk
    go_enter Tryz.func47, Tryz.ntmps47
    go_wp2
    go_region
    all_goals (go_wp2; go_ret; exact ⟨rfl, fun _ _ _ _ hk _ => hk, Below.drew (Below.refl _ w)⟩)
  · have hl0 : out.length ≠ 0 := by simpa using h0
    have hown := h.buf
    obtain ⟨g, cap, cur, rfl, hbg, hg, hnc, hcm, hcs, htake⟩ : ∃ g cap cur, bv = .slice (some ⟨g, 0, none⟩) out.length cap ∧ c.B ≤ g ∧ w.heap[g]? = some (.cells cur 5 (0, 0)) ∧ out.length ≤ cap ∧ cap ≤ maxLen ∧ cur.size = cap * 1 ∧ cur.toList.take (out.length * 1) = Lib.byteCells out := by
      rcases hown.2 with ⟨_, hz⟩ | ⟨g, cap, cur, hv, r⟩
      · exact absurd hz hl0
      · exact ⟨g, cap, cur, hv, r⟩
    have hSD : (Builtin.unsafeSliceData_ #[87] 138 #[.slice (some ⟨g, 0, none⟩) out.length cap]).run Tryz.prog w.drew = .ok (.pointer (some ⟨g, 0, none⟩)) w.drew := Lib.run_unsafeSliceData_row _ _ _ _ _ _ (by omega)
    have hUS : (Builtin.unsafeString_ #[138, 3] 9 #[.pointer (some ⟨g, 0, none⟩), .int .i64 out.length]).run Tryz.prog w.drew = .ok (.string ⟨out.toArray⟩) (w.drew.freeze ⟨g, 0, none⟩ out.length) := by
      refine Lib.run_unsafeString_row w.drew 138 3 9 5 Tryz.underlying138 Tryz.cells5 g cur.size (by have hg' : w.drew.heap[g]? = some (.cells cur 5 (0, 0)) := hg; simp [World.shape?, hg']) out h0 (by omega) (by omega) ?_
      intro j x hx
      have := hown.cells (g := g) rfl j (.int .u8 x.toNat) (by simp [Lib.byteCells, hx])
      exact this
    have hne : ∀ (k : Nat) (a : Array Value) (t : TypeId) (y : Nat × Nat), w.heap[k]? = some (.cells a t y) → t ≠ 5 → k ≠ g := fun k a t y hk ht e => ty_ne (e ▸ hk) hg ht
    clear h hbk hown hg htake
    go_enter Tryz.func47, Tryz.ntmps47
    go_wp2
    go_region
    all_goals (go_wp2; go_ret; exact ⟨rfl, fun k a t y hk ht => (freeze_other (w := w.drew) (hne k a t y hk ht)).trans hk, Lib.below_freeze (Below.drew (Below.refl _ w)) (p := ⟨g, 0, none⟩) hbg _⟩)
end Go.Proofs.YtfemboojdablhaaGreatDoor.Tre
