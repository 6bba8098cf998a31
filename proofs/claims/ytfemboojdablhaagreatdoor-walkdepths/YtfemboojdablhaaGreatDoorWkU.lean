/- Walk, of the test -true, from the root. -/
import Derived.Test.YtfemboojdablhaaGreatDoorWkT
namespace Go.Proofs.YtfemboojdablhaaGreatDoor.Tre
open Go.RowKit Go.Shelf

theorem node_mono {C C' : Nat} {W : World} {v : Value} {L : List NodeD} (h : NodeRow C W v L) (hC : C ≤ C') : NodeRow C' W v L := by
  rcases h with h | ⟨g, cap, e, hg, hc, hx⟩
  · exact .inl h
  · refine .inr ⟨g, cap, e, by omega, hc, fun i n hi => ?_⟩
    obtain ⟨kv, h1, h2⟩ := hx i n hi
    refine ⟨kv, h1, ?_⟩
    rcases h2 with h2 | ⟨g2, cap2, e2, hg2, r⟩
    · exact .inl h2
    · exact .inr ⟨g2, cap2, e2, by omega, r⟩
set_option maxRecDepth 100000 in
set_option maxHeartbeats 4000000 in
theorem walk_true {K : List ByteArray} (L : List NodeD) (hK : KInv L K) (g cap gs : Nat) (deep : Bool) (mn mx : Int) (w : World) (h1 : 0 ≤ mn) (h2 : 0 ≤ mx) (hrow : NodeRow w.heap.size w (.slice (some ⟨g, 0, none⟩) L.length cap) L) (hgs : w.heap[gs]? = some (.cells #[.string ⟨#[47]⟩] 9 (0, 0))) (hvl : (visG L deep mx (L.length + 1) 0 ⟨#[47]⟩ 0).length ≤ 1000) :
    Calls Tryz.prog 8 #[.slice (some ⟨g, 0, none⟩) L.length cap, .slice (some ⟨gs, 0, none⟩) 1 1, trueV, optV deep mn mx 1000] w fun e w' => ∃ (ta : Option Addr) (tn tc : Nat) (st : Int), e = .returned (.tuple #[.agg #[.string ⟨(outW mn (fun _ => true) (visG L deep mx (L.length + 1) 0 ⟨#[47]⟩ 0)).toArray⟩, .slice ta tn tc, .int .i64 st], .int .i64 0]) ∧ Below w.heap.size w w' := by
  obtain ⟨n0, hn0⟩ : ∃ n0, w.heap.size = n0 := ⟨_, rfl⟩
  obtain ⟨W0, hW0⟩ : ∃ W0, (((w.alloc (.cells #[.string ⟨#[45, 116, 114, 117, 101]⟩, .string ⟨#[]⟩, .int .i64 0, .int .i64 0, .slice none 0 0] 35)).alloc (.cells #[.bool false, .bool deep, .int .i64 mn, .int .i64 mx, .int .i64 1000] 37)).alloc (.cells #[.string ⟨#[]⟩, .slice none 0 0, .int .i64 0] 27)).alloc (.cells #[.int .i64 0] 28) = W0 := ⟨_, rfl⟩
  have hz0 : W0.heap.size = n0 + 4 := by rw [← hW0, ← hn0]; simp
  have hb0 : Below n0 w W0 := by rw [← hW0, ← hn0]; exact ((((Below.refl _ _).alloc (Nat.le_refl _) _).alloc (by simp) _).alloc (by first | (simp; done) | (simp; omega)) _).alloc (by first | (simp; done) | (simp; omega)) _
  have e0 : W0.heap[n0]? = some (.cells #[.string ⟨#[45, 116, 114, 117, 101]⟩, .string ⟨#[]⟩, .int .i64 0, .int .i64 0, .slice none 0 0] 35 (0, 0)) := by
    rw [← hW0, ← hn0, Below.heap_alloc _ _ _ (by first | (simp; done) | (simp; omega)), Below.heap_alloc _ _ _ (by first | (simp; done) | (simp; omega)), Below.heap_alloc _ _ _ (by simp)]; exact World.alloc_heap_new w _
  have e1 : W0.heap[n0 + 1]? = some (.cells #[.bool false, .bool deep, .int .i64 mn, .int .i64 mx, .int .i64 1000] 37 (0, 0)) := by
    rw [← hW0, ← hn0, Below.heap_alloc _ _ _ (by first | (simp; done) | (simp; omega)), Below.heap_alloc _ _ _ (by simp)]
    have := World.alloc_heap_new (w.alloc (.cells #[.string ⟨#[45, 116, 114, 117, 101]⟩, .string ⟨#[]⟩, .int .i64 0, .int .i64 0, .slice none 0 0] 35)) (.cells #[.bool false, .bool deep, .int .i64 mn, .int .i64 mx, .int .i64 1000] 37)
    simpa using this
  have e2 : W0.heap[n0 + 2]? = some (.cells #[.string ⟨#[]⟩, .slice none 0 0, .int .i64 0] 27 (0, 0)) := by
    rw [← hW0, ← hn0, Below.heap_alloc _ _ _ (by simp)]
    have := World.alloc_heap_new ((w.alloc (.cells #[.string ⟨#[45, 116, 114, 117, 101]⟩, .string ⟨#[]⟩, .int .i64 0, .int .i64 0, .slice none 0 0] 35)).alloc (.cells #[.bool false, .bool deep, .int .i64 mn, .int .i64 mx, .int .i64 1000] 37)) (.cells #[.string ⟨#[]⟩, .slice none 0 0, .int .i64 0] 27)
    simpa using this
  have e3 : W0.heap[n0 + 3]? = some (.cells #[.int .i64 0] 28 (0, 0)) := by
    rw [← hW0, ← hn0]
    have := World.alloc_heap_new (((w.alloc (.cells #[.string ⟨#[45, 116, 114, 117, 101]⟩, .string ⟨#[]⟩, .int .i64 0, .int .i64 0, .slice none 0 0] 35)).alloc (.cells #[.bool false, .bool deep, .int .i64 mn, .int .i64 mx, .int .i64 1000] 37)).alloc (.cells #[.string ⟨#[]⟩, .slice none 0 0, .int .i64 0] 27)) (.cells #[.int .i64 0] 28)
    simpa using this
  have o0 : W0.cell? ⟨n0 + 1, 0, none⟩ = some (.bool false) := by rw [Lib.cell_of_heap e1]; rfl
  have o1 : W0.cell? ⟨n0 + 1, 1, none⟩ = some (.bool deep) := by rw [Lib.cell_of_heap e1]; rfl
  have o2 : W0.cell? ⟨n0 + 1, 2, none⟩ = some (.int .i64 mn) := by rw [Lib.cell_of_heap e1]; rfl
  have o3 : W0.cell? ⟨n0 + 1, 3, none⟩ = some (.int .i64 mx) := by rw [Lib.cell_of_heap e1]; rfl
  have o4 : W0.cell? ⟨n0 + 1, 4, none⟩ = some (.int .i64 1000) := by rw [Lib.cell_of_heap e1]; rfl
  have HIR := hide (inRange_any deep mn mx 1000 W0 h1 h2 (by decide) (by decide))
  have HW0 := hide hW0
  have HP := hide (⟨hz0, hb0, e0, e1, e2, e3, hrow, hgs⟩ : _ ∧ _ ∧ _ ∧ _ ∧ _ ∧ _ ∧ _ ∧ _)
  clear hW0 hz0 hb0 e0 e1 e2 e3 hrow hgs
  go_enter_defers Tryz.func8, Tryz.ntmps8
  go_wp2_with (rw [HW0.out])
  go_wp2_with fail
  refine HIR.out.mono ?_
  rintro e w1 ⟨rfl, hb1⟩
  obtain ⟨hz0, hb0, e0, e1, e2, e3, hrow, hgs⟩ := HP.out
  have f0 := (hb1.block n0 (by omega)).trans e0
  have f1 := (hb1.block (n0 + 1) (by omega)).trans e1
  clear o0 o1 o2 o3 o4
  have o0 : w1.cell? ⟨n0 + 1, 0, none⟩ = some (.bool false) := by rw [Lib.cell_of_heap f1]; rfl
  have o1 : w1.cell? ⟨n0 + 1, 1, none⟩ = some (.bool deep) := by rw [Lib.cell_of_heap f1]; rfl
  have o2 : w1.cell? ⟨n0 + 1, 2, none⟩ = some (.int .i64 mn) := by rw [Lib.cell_of_heap f1]; rfl
  have o3 : w1.cell? ⟨n0 + 1, 3, none⟩ = some (.int .i64 mx) := by rw [Lib.cell_of_heap f1]; rfl
  have o4 : w1.cell? ⟨n0 + 1, 4, none⟩ = some (.int .i64 1000) := by rw [Lib.cell_of_heap f1]; rfl
  have t0 : w1.cell? ⟨n0, 0, none⟩ = some (.string ⟨#[45, 116, 114, 117, 101]⟩) := by rw [Lib.cell_of_heap f0]; rfl
  have t1 : w1.cell? ⟨n0, 1, none⟩ = some (.string ⟨#[]⟩) := by rw [Lib.cell_of_heap f0]; rfl
  have t2 : w1.cell? ⟨n0, 2, none⟩ = some (.int .i64 0) := by rw [Lib.cell_of_heap f0]; rfl
  have t3 : w1.cell? ⟨n0, 3, none⟩ = some (.int .i64 0) := by rw [Lib.cell_of_heap f0]; rfl
  have t4 : w1.cell? ⟨n0, 4, none⟩ = some (.slice none 0 0) := by rw [Lib.cell_of_heap f0]; rfl
  have HNW := hide (newW_any g cap L.length deep mn mx 1000 (by have := hK.lim; omega) w1)
  have HB1 := hide hb1
  clear hz0 hb0 e0 e1 e2 e3 hrow hgs f0 f1 hb1
  go_wp2_with fail
  refine HNW.out.mono ?_
  rintro e w2 ⟨b, gm, ga, kb, kr, wb, eb, iv, rfl, hN, hkb, hkr, hpr, hb2⟩
  obtain ⟨hz0, hb0, e0, e1, e2, e3, hrow, hgs⟩ := HP.out
  have hb1 := HB1.out
  have s1 := hb1.size
  have s2 := hb2.size
  have hw1 : Below n0 w w1 := hb0.trans (hb1.mono (by omega))
  have hw2 : Below n0 w w2 := hw1.trans (hb2.mono (by omega))
  have hrow2 : NodeRow w1.heap.size w2 (.slice (some ⟨g, 0, none⟩) L.length cap) L := node_mono (hrow.below (by rw [hn0]; exact hw2)) (by rw [hn0]; omega)
  obtain ⟨W3, hW3⟩ : ∃ W3, w2.alloc (.cells #[.pointer (some ⟨b, 0, none⟩)] 63) = W3 := ⟨_, rfl⟩
  have hb3 : Below w2.heap.size w2 W3 := by rw [← hW3]; exact (Below.refl _ _).alloc (Nat.le_refl _) _
  have hx3 : W3.heap[w2.heap.size]? = some (.cells #[.pointer (some ⟨b, 0, none⟩)] 63 (0, 0)) := by rw [← hW3]; exact World.alloc_heap_new w2 _
  have hst := (init_st hN hrow2).below hb3
  have hj := jtrue_stab _ _ _ _ _ _ _ _ _ (init_j hN hkb hkr hpr) (TurnC.of_below hb3)
  have hSt := start_any (jtrue_asks L ⟨b, ga, gm, g, cap, kb, w1.heap.size, deep, mn, mx, 1000, iv⟩ kr wb eb (Int.le_refl _)) hK (fun _ => False) W3 ⟨hst, hj, by decide, by decide, by simpa using hvl, fun i _ hi => by rw [List.getElem?_replicate, if_pos hi]⟩
  have hgl : gs < n0 := by rw [← hn0]; exact (Array.getElem?_eq_some_iff.1 hgs).1
  have hg3 : W3.heap[gs]? = some (.cells #[.string ⟨#[47]⟩] 9 (0, 0)) := (hb3.block gs (by have := hw2.size; rw [hn0] at this; omega)).trans ((hw2.block gs hgl).trans hgs)
  have g3 : W3.cell? ⟨gs, 0, none⟩ = some (.string ⟨#[47]⟩) := one_cell hg3
  have x3 : W3.cell? ⟨w2.heap.size, 0, none⟩ = some (.pointer (some ⟨b, 0, none⟩)) := one_cell hx3
  have k2 : W3.heap[n0 + 2]? = some (.cells #[.string ⟨#[]⟩, .slice none 0 0, .int .i64 0] 27 (0, 0)) := (hb3.block _ (by omega)).trans ((hb2.block _ (by omega)).trans ((hb1.block _ (by omega)).trans e2))
  have k3 : W3.heap[n0 + 3]? = some (.cells #[.int .i64 0] 28 (0, 0)) := (hb3.block _ (by omega)).trans ((hb2.block _ (by omega)).trans ((hb1.block _ (by omega)).trans e3))
  have hw3 : Below n0 w W3 := hw2.trans (hb3.mono (by omega))
  have hc1 : n0 + 4 ≤ w1.heap.size := by omega
  have HW3 := hide hW3
  have HSt := hide hSt
  have HY := hide (⟨hst, hx3, k2, k3, hw3⟩ : _ ∧ _ ∧ _ ∧ _ ∧ _)
  clear hz0 hb0 e0 e1 e2 e3 hrow hgs hb1 hw1 hw2 hrow2 hW3 hb3 hx3 hst hj hSt hg3 k2 k3 hw3 hb2 hN hkb hkr hpr s1 s2 HIR HNW o0 o1 o2 o3 o4 t0 t1 t2 t3 t4
  go_wp2_with (rw [HW3.out])
  refine wp_loop_rounds 2 ?_
  rw [rounds_succ]
  go_wp2_with fail
  refine HSt.out.mono ?_
  rintro e w4 ⟨rfl, pv4, bv4, tv4, nn4, E4, h4, j4, T4, o4, m4⟩
  obtain ⟨hst, hx3, k2, k3, hw3⟩ := HY.out
  have nd3 : ∀ {k : Nat} {a : Array Value} {t : TypeId} {y : Nat × Nat}, W3.heap[k]? = some (.cells a t y) → t ≠ 91 → t ≠ 4 → w4.heap[k]? = some (.cells a t y) := by
    intro k a t y hk h1 h2
    refine (T4.block k (Array.getElem?_eq_some_iff.1 hk).1 ?_).trans hk
    rintro ((e | e | e | e) | e)
    · have e : k = b := e
      subst e
      exact ty_ne hk hst.blk h1
    · have e : k = ga := e
      subst e
      exact ty_ne hk hst.abv h2
    · cases e
    · cases e
    · exact e
  have x4 := one_cell (nd3 hx3 (by decide) (by decide))
  have k24 := nd3 k2 (by decide) (by decide)
  have k34 := nd3 k3 (by decide) (by decide)
  have hw4 : Below n0 w w4 := hw3.trans (turn_low T4 (fun k hk => by rcases hk with q | q; have := (hst.lts k q).1; show n0 ≤ k; have hB : w1.heap.size ≤ k := this; omega; exact q.elim) (by have := hw3.size; rw [hn0] at this; exact this))
  obtain ⟨ta, tc, rfl⟩ : ∃ ta tc, tv4 = .slice ta nn4 tc := by
    obtain ⟨ts, hts⟩ := h4.nts
    rcases hts.2 with ⟨e, e2⟩ | ⟨g, cap, cur, e, _⟩
    · exact ⟨none, 0, by rw [e, e2]⟩
    · exact ⟨_, _, e⟩
  have hR := result_any w4 h4 (by have := o4; omega)
  have HR := hide hR
  have HZ := hide (⟨k24, k34, hw4⟩ : _ ∧ _ ∧ _)
  clear hst hx3 k2 k3 hw3 h4 j4 T4 o4 m4 nd3 k24 k34 hw4 hR HSt x3 g3
  go_wp2
  rw [rounds_succ]
  go_wp2_with fail
  refine HR.out.mono ?_
  rintro e w5 ⟨st, rfl, hb5⟩
  obtain ⟨k24, k34, hw4⟩ := HZ.out
  have k25 : w5.heap[n0 + 1 + 1]? = _ := (hb5.block (n0 + 2) (by show n0 + 2 < w1.heap.size; omega)).trans k24
  have k35 : w5.heap[n0 + 1 + 1 + 1]? = _ := (hb5.block (n0 + 3) (by show n0 + 3 < w1.heap.size; omega)).trans k34
  have z0 : w5.cell? ⟨n0 + 1 + 1, 0, none⟩ = some (.string ⟨#[]⟩) := by rw [Lib.cell_of_heap k25]; rfl
  have z1 : w5.cell? ⟨n0 + 1 + 1, 1, none⟩ = some (.slice none 0 0) := by rw [Lib.cell_of_heap k25]; rfl
  have z2 : w5.cell? ⟨n0 + 1 + 1, 2, none⟩ = some (.int .i64 0) := by rw [Lib.cell_of_heap k25]; rfl
  have z3 : w5.cell? ⟨n0 + 1 + 1 + 1, 0, none⟩ = some (.int .i64 0) := one_cell k35
  have y0 := Lib.frozen_of_heap k25 0
  have y1 := Lib.frozen_of_heap k25 1
  have y2 := Lib.frozen_of_heap k25 2
  have y3 := Lib.frozen_of_heap k35 0
  have HB5 : Hid (Below n0 w w5) := hw4.trans (hb5.mono (by show n0 ≤ w1.heap.size; omega))
  clear k24 k34 hw4 k25 k35 hb5 HR HZ
  go_wp2
  refine leaves_cons (f := 23) (args := #[.pointer (some ⟨w2.heap.size, 0, none⟩), .pointer (some ⟨n0 + 1 + 1, 0, none⟩), .pointer (some ⟨n0 + 1 + 1 + 1, 0, none⟩)]) (by simp) (by simp [go_sem]) ?_
  refine (wcatch_idle _ _ _ _).mono ?_
  rintro e u' w6 ⟨rfl, rfl, rfl⟩
  simp [Leaves, settle, results, Tryz.results8, go_sem, z0, z1, z2, z3]
  rw [hn0]
  exact (((HB5.out.setCell (p := ⟨n0 + 1 + 1, 0, none⟩) (by show n0 ≤ n0 + 1 + 1; omega) _).setCell (p := ⟨n0 + 1 + 1, 1, none⟩) (by show n0 ≤ n0 + 1 + 1; omega) _).setCell (p := ⟨n0 + 1 + 1, 2, none⟩) (by show n0 ≤ n0 + 1 + 1; omega) _).setCell (p := ⟨n0 + 1 + 1 + 1, 0, none⟩) (by show n0 ≤ n0 + 1 + 1 + 1; omega) _
end Go.Proofs.YtfemboojdablhaaGreatDoor.Tre
