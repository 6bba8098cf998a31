/- The program's states: grow, link. -/
import Derived.Test.YtjbdoeoimodhkaaGreatDoorASet
import Derived.Deep.AppendLies
import Derived.RangeFuncBox
namespace Go.Proofs.YtjbdoeoimodhkaaGreatDoor
open Go.RowKit

theorem Tryz.info3 : (Tryz.prog.info? 3).map (fun i => (i.zero, i.size, i.bytes)) = some (some (.int .i64 0), 1, 8) := by kernel_rfl
/-- The builder: states' ways out, ways, sets of bytes; start, end; what is to be laid; which sets are known. -/
def BBox (W : World) (b : Nat) (ov wv yv : Value) (st en : Int) (pv kv : Value) : Prop := W.heap[b]? = some (.cells #[ov, wv, yv, .int .i64 st, .int .i64 en, pv, kv] 191)
theorem BBox.cells {W : World} {b : Nat} {ov wv yv : Value} {st en : Int} {pv kv : Value} (h : BBox W b ov wv yv st en pv kv) :
    W.cell? ⟨b, 0, none⟩ = some ov ∧ W.cell? ⟨b, 1, none⟩ = some wv ∧ W.cell? ⟨b, 2, none⟩ = some yv ∧ W.cell? ⟨b, 3, none⟩ = some (.int .i64 st) ∧ W.cell? ⟨b, 4, none⟩ = some (.int .i64 en) ∧ W.cell? ⟨b, 5, none⟩ = some pv ∧ W.cell? ⟨b, 6, none⟩ = some kv ∧ ∀ j, W.frozen? ⟨b, j, none⟩ = false := by
  unfold BBox at h
  simp [World.cell?, World.frozen?, h]
def i64s (xs : List Int) : List Value := xs.map fun (x : Int) => Value.int .i64 x
/-- Two blocks may have been written, and new ones laid. -/
structure Grow2 (w w' : World) (p q : Option Nat) : Prop where
  os : w'.os = w.os
  tape : w'.tape = w.tape
  output : w'.output = w.output
  size : w.heap.size ≤ w'.heap.size
  block : ∀ k, k < w.heap.size → some k ≠ p → some k ≠ q → w'.heap[k]? = w.heap[k]?
theorem Grow2.owns {w w' : World} {p q : Option Nat} (h : Grow2 w w' p q) {B t size n : Nat} {v : Value} {xs : List Value} (ho : w.ownsRow B t size v n xs) (hp : ∀ g, v.ownBlock = some g → some g ≠ p ∧ some g ≠ q) : w'.ownsRow B t size v n xs := by
  refine ⟨ho.1, ?_⟩
  rcases ho.2 with h2 | ⟨g, cap, cur, e, hbb, hg, r⟩
  · exact .inl h2
  · have hne := hp g (by rw [e]; rfl)
    exact .inr ⟨g, cap, cur, e, hbb, (h.block g (Array.getElem?_eq_some_iff.1 hg).1 hne.1 hne.2).trans hg, r⟩
theorem Grow2.below {w w' : World} {p q : Option Nat} (h : Grow2 w w' p q) {C : Nat} (hC : C ≤ w.heap.size) (hp : ∀ g, p = some g → C ≤ g) (hq : ∀ g, q = some g → C ≤ g) : Below C w w' :=
  ⟨h.os, h.tape, h.output, h.size, fun k hk => h.block k (by omega) (fun e => by have := hp k e.symm; omega) (fun e => by have := hq k e.symm; omega)⟩
theorem own_not_box {B t size n b : Nat} {W : World} {v : Value} {xs : List Value} {t' : TypeId} {cur' : Array Value} (ho : W.ownsRow B t size v n xs) (hb : W.heap[b]? = some (.cells cur' t')) (hne : t ≠ t') : v.ownBlock ≠ some b := by
  intro e
  rcases ho.2 with ⟨rfl, _⟩ | ⟨g, cap, cur, rfl, _, hg, _⟩
  · cases e
  · simp only [Value.ownBlock, Option.some.injEq] at e
    subst e
    rw [hb] at hg
    cases hg
    exact hne rfl
theorem i64s_push {B : Nat} {w1 : World} {v' : Value} {xs : List Int} {x : Int} (h : w1.ownsRow B 3 1 v' (xs.length + 1) (i64s xs ++ [Value.int .i64 x])) :
    w1.ownsRow B 3 1 v' (xs ++ [x]).length (i64s (xs ++ [x])) := by
  unfold i64s at h ⊢
  rw [List.length_append, List.map_append]; exact h
theorem BBox.set {W : World} {b : Nat} {ov wv yv : Value} {st en : Int} {pv kv : Value} (h : BBox W b ov wv yv st en pv kv) (u : Value) : BBox (W.setCell ⟨b, 0, none⟩ u) b u wv yv st en pv kv := by
  obtain ⟨hlt, hk⟩ := Array.getElem?_eq_some_iff.1 h
  show (W.heap.modify b _)[b]? = _
  rw [Array.getElem?_eq_getElem (by rw [Array.size_modify]; exact hlt), Array.getElem_modify_self, hk]
  rfl
def GrowPost (B b : Nat) (ov wv yv : Value) (st en : Int) (pv kv : Value) (outs : List Int) (w : World) (e : Ending) (w' : World) : Prop :=
  e = .returned (.int .i64 (outs.length : Int)) ∧ ∃ ov', BBox w' b ov' wv yv st en pv kv ∧ w'.ownsRow B 3 1 ov' (outs ++ [-1]).length (i64s (outs ++ [-1])) ∧ Grow2 w w' (some b) ov.ownBlock
set_option maxRecDepth 100000 in
set_option maxHeartbeats 1000000 in
theorem grow_any (B b : Nat) (ov wv yv : Value) (st en : Int) (pv kv : Value) (outs : List Int) (w : World) (hbox : BBox w b ov wv yv st en pv kv) (hown : w.ownsRow B 3 1 ov outs.length (i64s outs)) (hl : outs.length ≤ 1000000000) (hB : B ≤ w.heap.size) :
    Calls Tryz.prog 110 #[.pointer (some ⟨b, 0, none⟩)] w (GrowPost B b ov wv yv st en pv kv outs w) := by
  obtain ⟨i0, hi, hz0, hz1, hz2⟩ := info_parts Tryz.info3
  obtain ⟨c0, _, _, _, _, _, _, _⟩ := hbox.cells
  have hblt : b < w.heap.size := (Array.getElem?_eq_some_iff.1 hbox).1
  have hnb := own_not_box hown hbox (by decide)
  have HBX := hide hbox
  clear hbox
  go_enter Tryz.func110, Tryz.ntmps110
  go_wp2_with (at_builtin; refine wpList_append_own _ rfl _ _ 28 rfl B 3 i0 (.int .i64 0) 1 8 Tryz.underlying28 hi hz0 hz1 hz2 rfl (by decide) _ _ _ rfl (hown.alloc _) ⟨w.heap.size, 0, none⟩ 1 1 [.int .i64 (-1)] rfl rfl (cell_one_new _ _ _) (by simp [Value.oneCell']) (by unfold maxLen; omega) (by omega) (by simp; omega) ?_)
  intro v' w1 hown' hgrow _
  obtain ⟨g', cap', rfl⟩ := ownsRow_succ hown'
  have hbx1 : BBox w1 b ov wv yv st en pv kv := (hgrow.block b (by simp; omega) (fun e => hnb e.symm)).trans ((((Below.refl w.heap.size w).alloc (Nat.le_refl _) _).block b hblt).trans HBX.out)
  obtain ⟨d0, _, _, _, _, _, _, df⟩ := hbx1.cells
  have f0 := df 0
  have HOWN := hide hown'
  have HGR := hide hgrow
  have HBX1 := hide hbx1
  clear df hown' hgrow hbx1 hown c0
  go_wp2
  go_ret
  refine ⟨rfl, _, HBX1.out.set _, ?_, ?_⟩
  · refine i64s_push (x := -1) ?_
    exact ownsRow_setCell_other HOWN.out (a := ⟨b, 0, none⟩) (own_not_box HOWN.out HBX1.out (by decide)) _
  · have h1 := HGR.out
    have hal : Below w.heap.size w (w.alloc (.cells #[.int .i64 (-1)] 3)) := (Below.refl _ _).alloc (Nat.le_refl _) _
    have h2 := set_grown w1 b 0 (Value.slice (some ⟨g', 0, none⟩) (outs.length + 1) cap')
    refine ⟨h2.os.trans (h1.os.trans hal.os), h2.tape.trans (h1.tape.trans hal.tape), h2.output.trans (h1.output.trans hal.output), Nat.le_trans hal.size (Nat.le_trans h1.size h2.size), fun k hk hp hq => ?_⟩
    have hk1 : k < (w.alloc (.cells #[.int .i64 (-1)] 3)).heap.size := Nat.lt_of_lt_of_le hk hal.size
    exact (h2.block k (Nat.lt_of_lt_of_le hk1 h1.size) hp).trans ((h1.block k hk1 hq).trans (hal.block k hk))
end Go.Proofs.YtjbdoeoimodhkaaGreatDoor
