/- Walk: its result. -/
import Derived.Test.YtfemboojdablhaaGreatDoorWkR
namespace Go.Proofs.YtfemboojdablhaaGreatDoor.Tre
open Go.RowKit Go.Shelf
variable {L : List NodeD} {c : Cf} {gone nn : Nat} {out : List UInt8} {ab : List Bool} {pv bv tv : Value}

set_option maxRecDepth 100000 in
set_option maxHeartbeats 4000000 in
theorem result_any (w : World) (h : WSt L c gone out ab pv bv tv nn w) (hlen : out.length ≤ 1000000000) :
    Calls Tryz.prog 26 #[.pointer (some ⟨c.b, 0, none⟩)] w fun e w' => ∃ st : Int, e = .returned (.agg #[.string ⟨out.toArray⟩, tv, .int .i64 st]) ∧ Below c.B w w' := by
  obtain ⟨ts, hts⟩ := h.nts
  obtain ⟨ta, tc, rfl⟩ : ∃ ta tc, tv = .slice ta nn tc := by
    rcases hts.2 with ⟨e, e2⟩ | ⟨g, cap, cur, e, _⟩
    · exact ⟨none, 0, by rw [e, e2]⟩
    · exact ⟨_, _, e⟩
  obtain ⟨W0, hW0⟩ : ∃ W0, w.alloc (.cells #[.string ⟨#[]⟩, .slice none 0 0, .int .i64 0] 27) = W0 := ⟨_, rfl⟩
  have hb0 : Below w.heap.size w W0 := by rw [← hW0]; exact (Below.refl _ _).alloc (Nat.le_refl _) _
  have h0 := h.below hb0
  have hx0 : W0.heap[w.heap.size]? = some (.cells #[.string ⟨#[]⟩, .slice none 0 0, .int .i64 0] 27 (0, 0)) := by rw [← hW0]; exact World.alloc_heap_new w _
  have c0 : W0.cell? ⟨c.b, 13, none⟩ = some (.slice ta nn tc) := h0.blk.cell 13
  have hbl : c.b < W0.heap.size := h0.blk.lt
  have HS : ∀ W1, Below W0.heap.size W0 W1 → Hid (Calls Tryz.prog 47 #[.pointer (some ⟨c.b, 11, none⟩)] W1 fun e w' => e = .returned (.string ⟨out.toArray⟩) ∧ (∀ (k : Nat) (a : Array Value) (t : TypeId) (y : Nat × Nat), W1.heap[k]? = some (.cells a t y) → t ≠ 5 → w'.heap[k]? = some (.cells a t y)) ∧ Below c.B W1 w') := fun W1 hb => wstring_any W1 (h0.below hb) hlen
  have HW0 := hide hW0
  have HP := hide (⟨h, hb0, hx0, h0⟩ : _ ∧ _ ∧ _ ∧ _)
  clear h h0 hb0 hx0 hW0 hts
  go_enter Tryz.func26, Tryz.ntmps26
  go_upto_region 1 with (rw [HW0.out])
  have HC : Hid (∀ X, Below W0.heap.size W0 X → WkC X c L.length gone pv bv (.slice ta nn tc)) := fun X hX => (hX.block c.b hbl).trans HP.out.2.2.2.blk
  go_cut [3] from 4 (fun v wx => ∃ rb, v = .pointer (some ⟨rb, 0, none⟩) ∧ wx.heap[rb]? = some (.cells #[.string ⟨out.toArray⟩, .slice ta nn tc, .int .i64 0] 27 (0, 0)) ∧ WkC wx c L.length gone pv bv (.slice ta nn tc) ∧ wx.heap[w.heap.size]? = some (.cells #[.string ⟨#[]⟩, .slice none 0 0, .int .i64 0] 27 (0, 0)) ∧ rb ≠ w.heap.size ∧ c.B ≤ rb ∧ Below c.B W0 wx)
  case first =>
    have hne1 : c.b ≠ W0.heap.size := by omega
    have hne2 : W0.heap.size ≠ c.b := by omega
    go_region_held3 (fun w' => w'.cell? ⟨c.b, 13, none⟩ = some (.slice ta nn tc)) (go_keep) (first | (go_at_call 47; refine (HS _ (by repeat first | exact Below.refl _ _ | refine Below.drew ?_ | refine Below.alloc ?_ (by first | omega | (simp; done) | (simp; omega)) _)).out.mono ?_; rintro e w6 ⟨rfl, hk6, hb6⟩; have hblk6 := hk6 _ _ _ _ (HC.out _ (by repeat first | exact Below.refl _ _ | refine Below.drew ?_ | refine Below.alloc ?_ (by first | omega | (simp; done) | (simp; omega)) _)) (by decide); have s0 : w6.cell? ⟨c.b, 13, none⟩ = some (.slice ta nn tc) := (by rw [Lib.cell_of_heap hblk6]; rfl); first | (have hz6 := hk6 W0.heap.size #[.string ⟨#[]⟩, .slice none 0 0, .int .i64 0] 27 (0, 0) (World.alloc_heap_new W0 _) (by decide); have r0 : w6.cell? ⟨W0.heap.size, 0, none⟩ = some (.string ⟨#[]⟩) := (by rw [Lib.cell_of_heap hz6]; rfl); have r1 : w6.cell? ⟨W0.heap.size, 1, none⟩ = some (.slice none 0 0) := (by rw [Lib.cell_of_heap hz6]; rfl); have r2 : w6.cell? ⟨W0.heap.size, 2, none⟩ = some (.int .i64 0) := (by rw [Lib.cell_of_heap hz6]; rfl); have f0 := Lib.frozen_of_heap hz6 0; have f1 := Lib.frozen_of_heap hz6 1; have f2 := Lib.frozen_of_heap hz6 2) | skip))
    all_goals go_wp2
    all_goals go_meet
    · obtain ⟨h, hb0, hx0, h0⟩ := HP.out
      have hx6 := hk6 _ _ _ _ hx0 (by decide)
      have l1 := (Array.getElem?_eq_some_iff.1 hblk6).1
      have l2 := (Array.getElem?_eq_some_iff.1 hx6).1
      have lb := h.bB
      exact ⟨_, rfl, World.alloc_heap_new w6 _, (Below.heap_alloc _ _ _ l1).trans hblk6, (Below.heap_alloc _ _ _ l2).trans hx6, by omega, by omega, ((Below.refl _ W0).drew.trans hb6).alloc (by omega) _⟩
    · obtain ⟨h, hb0, hx0, h0⟩ := HP.out
      have l2 := (Array.getElem?_eq_some_iff.1 hx0).1
      have hx6 := hk6 _ _ _ _ ((Below.heap_alloc W0 _ _ l2).trans hx0) (by decide)
      have lb := h.bB
      have l3 := hb0.size
      have l4 := h.Bl
      refine ⟨_, rfl, wset_block (wset_block (wset_block hz6)), (wset_other hne1).trans ((wset_other hne1).trans ((wset_other hne1).trans hblk6)), (wset_other (by omega)).trans ((wset_other (by omega)).trans ((wset_other (by omega)).trans hx6)), by omega, by omega, ?_⟩
      refine (((Below.trans ?_ hb6).setCell (p := ⟨W0.heap.size, 0, none⟩) (by show c.B ≤ W0.heap.size; omega) _).setCell (p := ⟨W0.heap.size, 1, none⟩) (by show c.B ≤ W0.heap.size; omega) _).setCell (p := ⟨W0.heap.size, 2, none⟩) (by show c.B ≤ W0.heap.size; omega) _
      exact ((Below.refl _ W0).alloc (by omega) _).drew
  case rest =>
    obtain ⟨rb, rfl, hrb, hbk, hres, hne, hrB, hb1⟩ := hcut
    obtain ⟨h, hb0, hx0, h0⟩ := HP.out
    have c1 : wc.cell? ⟨c.b, 13, none⟩ = some (.slice ta nn tc) := hbk.cell 13
    have r0 : wc.cell? ⟨rb, 0, none⟩ = some (.string ⟨out.toArray⟩) := by rw [Lib.cell_of_heap hrb]; rfl
    have r1 : wc.cell? ⟨rb, 1, none⟩ = some (.slice ta nn tc) := by rw [Lib.cell_of_heap hrb]; rfl
    have r2 : wc.cell? ⟨rb, 2, none⟩ = some (.int .i64 0) := by rw [Lib.cell_of_heap hrb]; rfl
    have q2 : wc.frozen? ⟨rb, 2, none⟩ = false := Lib.frozen_of_heap hrb 2
    have z0 : wc.cell? ⟨w.heap.size, 0, none⟩ = some (.string ⟨#[]⟩) := by rw [Lib.cell_of_heap hres]; rfl
    have z1 : wc.cell? ⟨w.heap.size, 1, none⟩ = some (.slice none 0 0) := by rw [Lib.cell_of_heap hres]; rfl
    have z2 : wc.cell? ⟨w.heap.size, 2, none⟩ = some (.int .i64 0) := by rw [Lib.cell_of_heap hres]; rfl
    have y0 := Lib.frozen_of_heap hres 0
    have y1 := Lib.frozen_of_heap hres 1
    have y2 := Lib.frozen_of_heap hres 2
    have hne' : w.heap.size ≠ rb := fun e => hne e.symm
    have l4 := h.Bl
    have HB : Hid (Below c.B w wc) := (hb0.mono l4).trans hb1
    clear h hb0 hx0 h0 hbk hrb hres hb1
    by_cases hnn : 0 < nn
    · have b1 : decide ((0 : Int) < (nn : Int)) = true := by rw [decide_eq_true_eq]; omega
      go_wp2
      refine bodyPost_ret (v := .agg #[.string ⟨out.toArray⟩, .slice ta nn tc, .int .i64 1]) (by simp [results, Tryz.results26, go_sem, z0, z1, z2]) rfl ⟨1, rfl, ?_⟩
      repeat first | exact HB.out | refine Below.drew ?_ | refine Below.setCell ?_ (by first | exact hrB | exact l4) _
    · have b1 : decide ((0 : Int) < (nn : Int)) = false := by rw [decide_eq_false_iff_not]; omega
      go_wp2
      refine bodyPost_ret (v := .agg #[.string ⟨out.toArray⟩, .slice ta nn tc, .int .i64 0]) (by simp [results, Tryz.results26, go_sem, z0, z1, z2]) rfl ⟨0, rfl, ?_⟩
      repeat first | exact HB.out | refine Below.drew ?_ | refine Below.setCell ?_ (by first | exact hrB | exact l4) _
end Go.Proofs.YtfemboojdablhaaGreatDoor.Tre
