/- path.Parts. -/
import Derived.Test.YtehbjabneocflaaDoorSeq
namespace Go.Proofs.YtehbjabneocflaaDoor
open Go.RowKit Go.Shelf
attribute [local go_sem] Oper.semAt_some

theorem row_not {B n k : Nat} {W : World} {v : Value} {xs : List Value} (h : W.ownsRow B 9 1 v n xs) (hk : k < B) : some k ≠ v.ownBlock := by
  intro e
  have := (h.lt k e.symm).1
  omega

theorem filter_hit (pre : List ByteArray) {x : ByteArray} (h : x.toList.isEmpty = false) : (pre ++ [x]).filter keep = pre.filter keep ++ [x] := by
  have : keep x = true := by unfold keep; rw [h]; rfl
  simp [List.filter_append, this]
theorem filter_miss (pre : List ByteArray) {x : ByteArray} (h : x.toList.isEmpty = true) : (pre ++ [x]).filter keep = pre.filter keep := by
  have : keep x = false := by unfold keep; rw [h]; rfl
  simp [List.filter_append, this]

/-- What one 'parts = append(parts, part)' does: the box holds the new slice, which owns one text more; nothing else that lay has turned. -/
theorem push_box {W w1 : World} {b0 : Nat} {v v' : Value} {k m : Nat} {xs ys : List Value} {tmp : Obj} (hsz : b0 + 4 ≤ W.heap.size)
    (hv : Boxed W b0 22 v) (hrow : W.ownsRow (b0 + 4) 9 1 v k xs) (hown' : w1.ownsRow (b0 + 4) 9 1 v' m ys) (hgrow : (W.alloc tmp).grownBy w1 v.ownBlock) :
    Boxed w1 b0 22 v ∧ Boxed (w1.setCell ⟨b0, 0, none⟩ v') b0 22 v' ∧ (w1.setCell ⟨b0, 0, none⟩ v').ownsRow (b0 + 4) 9 1 v' m ys ∧ KeepsOthers W (w1.setCell ⟨b0, 0, none⟩ v') ∧ Below b0 W (w1.setCell ⟨b0, 0, none⟩ v') ∧ KeepBoxes (b0 + 1) (b0 + 2) (b0 + 3) W (w1.setCell ⟨b0, 0, none⟩ v') := by
  obtain ⟨a1, a2, _, a4, a5⟩ := hv.appended (by decide) (owns_base (by omega) hrow) (show b0 ≤ W.heap.size by omega) (Nat.le_refl _) (owns_base (B := b0) (by omega) hown') hgrow
  refine ⟨a1, a2, hown'.kept (grownBy_setCell' w1 b0 v') (.inr (row_not hown' (by omega)).symm), a4, a5, ?_⟩
  intro j hj
  have hj1 : b0 < j ∧ j < b0 + 4 := by omega
  have e1 := (grownBy_setCell' w1 b0 v').block j (by have := hgrow.size; simp at this; omega) (by simp; omega)
  have e2 := hgrow.block j (by simp; omega) (row_not hrow hj1.2)
  rw [e1, e2]
  exact (World.grownBy_alloc W tmp none).block j (by omega) (by simp)

set_option maxRecDepth 100000 in
set_option maxHeartbeats 2000000 in
theorem parts_in (n : Nat) (hn : 4 ≤ n) (s : ByteArray) (hs : s.size ≤ 1073741824) (w : World) :
    CallsIn Fence.wide n Tryd.prog 7 #[.string s] w fun e W' => ∃ v, e = .returned v ∧ W'.ownsRow w.heap.size 9 1 v (partsS s).length ((partsS s).map Value.string) ∧ Below w.heap.size w W' := by
  have h1 : 1 ≤ n := by omega
  have hcl := cutS_length 47 s
  obtain ⟨i0, hi, hz0, hz1, hz2⟩ := info_parts Tryd.info9
  refine callsIn_of_wp_marks Tryd.func7 rfl trivial ?_ rfl
  simp only [Tryd.ntmps7, List.size_toArray, List.length_cons, List.length_nil, Nat.reduceAdd, Nat.reduceSub, Array.replicate_succ, Array.replicate_zero, List.push_toArray, List.append_toArray, List.nil_append, List.cons_append]
  gi_wp2_with (refine ⟨trivial, ?_⟩; gi_at_call 20; refine (SplitSeq_in (n - 1) (by omega) _ _ _).mono ?_; rintro e w' ⟨rfl, rfl⟩)
  obtain ⟨w4, hw4⟩ : ∃ w4, (((w.alloc (.cells #[.slice none 0 0] 22)).alloc (.cells #[.string s] 9)).alloc (.cells #[.string ⟨#[47]⟩] 9)).alloc (.cells #[.int .i64 0] 3) = w4 := ⟨_, rfl⟩
  rw [hw4]
  have bO : Boxed w4 w.heap.size 22 (.slice none 0 0) := by rw [← hw4]; exact (((Boxed.new w 22 (.slice none 0 0)).alloc _).alloc _).alloc _
  have bS : Boxed w4 (w.heap.size + 1) 9 (.string s) := by
    rw [← hw4]
    have := Boxed.new (w.alloc (.cells #[.slice none 0 0] 22)) 9 (.string s)
    rw [World.size_alloc] at this
    exact (this.alloc _).alloc _
  have bP : Boxed w4 (w.heap.size + 2) 9 (.string ⟨#[47]⟩) := by
    rw [← hw4]
    have := Boxed.new ((w.alloc (.cells #[.slice none 0 0] 22)).alloc (.cells #[.string s] 9)) 9 (.string ⟨#[47]⟩)
    rw [World.size_alloc, World.size_alloc] at this
    exact this.alloc _
  have bQ : Boxed w4 (w.heap.size + 3) 3 (.int .i64 0) := by
    rw [← hw4]
    have := Boxed.new (((w.alloc (.cells #[.slice none 0 0] 22)).alloc (.cells #[.string s] 9)).alloc (.cells #[.string ⟨#[47]⟩] 9)) 3 (.int .i64 0)
    rw [World.size_alloc, World.size_alloc, World.size_alloc] at this
    exact this
  have hB0 : Below w.heap.size w w4 := by
    rw [← hw4]; exact ((((Below.refl _ w).alloc (Nat.le_refl _) _).alloc (by simp) _).alloc (by simp; omega) _).alloc (by simp; omega) _
  have hsz4 : w4.heap.size = w.heap.size + 4 := by rw [← hw4]; simp
  clear hw4
  refine wpIn_range_box rfl h1 (gf := 48) (lb := #[.pointer (some ⟨w.heap.size + 2, 0, none⟩), .pointer (some ⟨w.heap.size + 1, 0, none⟩), .pointer (some ⟨w.heap.size + 3, 0, none⟩)]) rfl trivial (enters_of Tryd.func48 (by kernel_rfl) rfl)
    (bx := w.heap.size + 1) (by omega) (split_seq (n - 1) (by omega) (w.heap.size + 1) (w.heap.size + 2) (w.heap.size + 3) (by omega) (by omega) s hs w4 bS bP bQ)
    (fun {A B C} h k j hj => (k j hj).trans (h j hj)) (fun W l o o' hl _ j hj => World.putObj_heap_other (by omega)) (fun _ => rfl)
    (fun (pre : List ByteArray) W => (∃ v, Boxed W w.heap.size 22 v ∧ W.ownsRow (w.heap.size + 4) 9 1 v (pre.filter keep).length ((pre.filter keep).map Value.string) ∧ True) ∧ Below w.heap.size w W ∧ w.heap.size + 4 ≤ W.heap.size)
    (OwnFrom.and (Own.from (holdsRow_own (w.heap.size + 4) w.heap.size 22 9 1 (fun pre : List ByteArray => (pre.filter keep).length) (fun pre : List ByteArray => (pre.filter keep).map Value.string) (fun _ _ => True)) _) (OwnFrom.and (ownFrom_below (Nat.le_refl _) (by omega)) (fun _ _ _ _ hs hg _ => Nat.le_trans hs hg.size)))
    (fun p A v hs => by
      obtain ⟨⟨u, hu, hr, _⟩, hB, hz⟩ := hs
      exact ⟨⟨u, hu.kept (grownBy_setCell' A (w.heap.size + 1) v) (fun e => by have := Option.some.inj e; omega), hr.kept (grownBy_setCell' A (w.heap.size + 1) v) (.inr (row_not hr (by omega)).symm), trivial⟩, hB.setCell (p := ⟨w.heap.size + 1, 0, none⟩) (by show w.heap.size ≤ w.heap.size + 1; omega) _, Nat.le_trans hz (grownBy_setCell' A (w.heap.size + 1) v).size⟩)
    ⟨⟨_, bO, World.ownsRow_nil _ _ _ _, trivial⟩, hB0, by omega⟩
    (fun x => { tmps := #[.string s, undef, .slice none 0 0, .pointer (some ⟨w.heap.size, 0, none⟩), .string x, .string s, .func (.func 48) #[] #[.pointer (some ⟨w.heap.size + 2, 0, none⟩), .pointer (some ⟨w.heap.size + 1, 0, none⟩), .pointer (some ⟨w.heap.size + 3, 0, none⟩)], .string x, undef, undef, undef, undef, undef, undef, undef], defers := [] }) ?assign ?body ?done
  case assign =>
    intro l x W K hK
    gi_wp2
    exact hK
  case body =>
    rintro l pre x W ⟨⟨v, hv, hrow, _⟩, hB, hWs⟩ hlt
    have hc := hv.cell
    have hpl : (pre.filter keep).length ≤ pre.length := List.length_filter_le _ _
    cases hE : x.toList.isEmpty
    · gi_wp2_with (gi_at_builtin; refine wpListIn_append_own _ rfl _ _ 22 rfl (w.heap.size + 4) 9 i0 (.string ⟨#[]⟩) 1 16 Tryd.underlying22 hi hz0 hz1 hz2 rfl (by decide) _ _ _ rfl (hrow.alloc _) ⟨W.heap.size, 0, none⟩ 1 1 [.string x] rfl rfl (cell_one_new _ _ _) (by simp [Value.oneCell']) (by unfold maxLen; omega) (by omega) (by simp; omega) ?_; intro v' w1 hown' hgrow _; obtain ⟨g', cap', rfl⟩ := ownsRow_succ hown'; obtain ⟨hv1, hv2, hr2, hk2, hb2, hq2⟩ := push_box hWs hv hrow hown' hgrow; have hc1 := hv1.cell; have hf1 := hv1.frozen)
      have hz2 := hgrow.size
      exact ⟨hk2.from _, hq2, ⟨_, hv2, by rw [filter_hit pre hE]; exact row_push hr2, trivial⟩, hB.trans hb2, by have := (grownBy_setCell' w1 w.heap.size (.slice (some ⟨g', 0, none⟩) ((pre.filter keep).length + 1) cap')).size; simp at hz2; omega⟩
    · gi_wp2
      exact ⟨KeepsFrom.refl _ _, fun _ _ => rfl, ⟨v, hv, by rw [filter_miss pre hE]; exact hrow, trivial⟩, hB, hWs⟩
  case done =>
    rintro D ys W hD rfl ⟨⟨v, hv, hrow, _⟩, hB, _⟩ hK
    have hc := hv.cell
    gi_wp2
    refine ⟨by simp, .inl ⟨_, _, rfl, run_takeDeferred hK, ?_⟩⟩
    refine ⟨_, results_tmp rfl _ _ _, v, rfl, ?_, hB.trans (belowK_b (w := w) (Nat.le_refl _) W D _ _ (by omega) hK rfl rfl)⟩
    exact owns_base (by omega) (ownsRow_putObj hrow _ hK rfl)

theorem parts_any (s : ByteArray) (w : World) (hs : s.size ≤ 1073741824) :
    Calls Tryd.prog 7 #[.string s] w fun e W' => ∃ v, e = .returned v ∧ W'.ownsRow w.heap.size 9 1 v (partsS s).length ((partsS s).map Value.string) ∧ Below w.heap.size w W' :=
  (callsIn_wide (n := 8)).1 (parts_in 8 (by omega) s hs w)
end Go.Proofs.YtehbjabneocflaaDoor
