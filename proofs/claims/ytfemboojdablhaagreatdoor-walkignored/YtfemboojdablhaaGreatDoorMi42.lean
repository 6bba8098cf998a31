/- Merged: WkU, WiC. -/
import Derived.Test.YtfemboojdablhaaGreatDoorMi41
import Derived.Test.YtfemboojdablhaaGreatDoorMi40
namespace Go.Proofs.YtfemboojdablhaaGreatDoor.Tre
open Go.RowKit Go.Shelf
theorem node_mono {C C' : Nat} {W : World} {v : Value} {L : List NodeD} (h : NodeRow C W v L) (hC : C ≤ C') : NodeRow C' W v L := by
  rcases h with h | ⟨g, cap, e, hg, hc, hx⟩
  · exact .inl h
  · refine .inr ⟨g, cap, e, by omega, hc, fun i n hi => ?_⟩
    obtain ⟨kv, h1, h2⟩ := hx i n hi
    refine ⟨kv, h1, ?_⟩
    rcases h2 with h2 | ⟨g2, cap2, e2, hg2, r⟩
    · exact .inl h2
    · exact .inr ⟨g2, cap2, e2, by omega, r⟩
set_option maxRecDepth 100000 in
set_option maxHeartbeats 4000000 in
theorem walk_true {K : List ByteArray} (L : List NodeD) (hK : KInv L K) (g cap gs : Nat) (deep : Bool) (mn mx : Int) (w : World) (h1 : 0 ≤ mn) (h2 : 0 ≤ mx) (hrow : NodeRow w.heap.size w (.slice (some ⟨g, 0, none⟩) L.length cap) L) (hgs : w.heap[gs]? = some (.cells #[.string ⟨#[47]⟩] 9 (0, 0))) (hvl : (visG L deep mx (L.length + 1) 0 ⟨#[47]⟩ 0).length ≤ 1000) :
    Calls Tryz.prog 8 #[.slice (some ⟨g, 0, none⟩) L.length cap, .slice (some ⟨gs, 0, none⟩) 1 1, trueV, optV deep mn mx 1000] w fun e w' => ∃ (ta : Option Addr) (tn tc : Nat) (st : Int), e = .returned (.tuple #[.agg #[.string ⟨(outW mn (fun _ => true) (visG L deep mx (L.length + 1) 0 ⟨#[47]⟩ 0)).toArray⟩, .slice ta tn tc, .int .i64 st], .int .i64 0]) ∧ Below w.heap.size w w' := by
  obtain ⟨n0, hn0⟩ : ∃ n0, w.heap.size = n0 := ⟨_, rfl⟩
  obtain ⟨W0, hW0⟩ : ∃ W0, (((w.alloc (.cells #[.string ⟨#[45, 116, 114, 117, 101]⟩, .string ⟨#[]⟩, .int .i64 0, .int .i64 0, .slice none 0 0] 35)).alloc (.cells #[.bool false, .bool deep, .int .i64 mn, .int .i64 mx, .int .i64 1000] 37)).alloc (.cells #[.string ⟨#[]⟩, .slice none 0 0, .int .i64 0] 27)).alloc (.cells #[.int .i64 0] 28) = W0 := ⟨_, rfl⟩
  have hz0 : W0.heap.size = n0 + 4 := by rw [← hW0, ← hn0]; simp
  have hb0 : Below n0 w W0 := by rw [← hW0, ← hn0]; exact ((((Below.refl _ _).alloc (Nat.le_refl _) _).alloc (by simp) _).alloc (by first | (simp; done) | (simp; omega)) _).alloc (by first | (simp; done) | (simp; omega)) _
  have e0 : W0.heap[n0]? = some (.cells #[.string ⟨#[45, 116, 114, 117, 101]⟩, .string ⟨#[]⟩, .int .i64 0, .int .i64 0, .slice none 0 0] 35 (0, 0)) := by
    rw [← hW0, ← hn0, Below.heap_alloc _ _ _ (by first | (simp; done) | (simp; omega)), Below.heap_alloc _ _ _ (by first | (simp; done) | (simp; omega)), Below.heap_alloc _ _ _ (by simp)]; exact World.alloc_heap_new w _
  have e1 : W0.heap[n0 + 1]? = some (.cells #[.bool false, .bool deep, .int .i64 mn, .int .i64 mx, .int .i64 1000] 37 (0, 0)) := by
    rw [← hW0, ← hn0, Below.heap_alloc _ _ _ (by first | (simp; done) | (simp; omega)), Below.heap_alloc _ _ _ (by simp)]
    have := World.alloc_heap_new (w.alloc (.cells #[.string ⟨#[45, 116, 114, 117, 101]⟩, .string ⟨#[]⟩, .int .i64 0, .int .i64 0, .slice none 0 0] 35)) (.cells #[.bool false, .bool deep, .int .i64 mn, .int .i64 mx, .int .i64 1000] 37)
    simpa using this
  have e2 : W0.heap[n0 + 2]? = some (.cells #[.string ⟨#[]⟩, .slice none 0 0, .int .i64 0] 27 (0, 0)) := by
    rw [← hW0, ← hn0, Below.heap_alloc _ _ _ (by simp)]
    have := World.alloc_heap_new ((w.alloc (.cells #[.string ⟨#[45, 116, 114, 117, 101]⟩, .string ⟨#[]⟩, .int .i64 0, .int .i64 0, .slice none 0 0] 35)).alloc (.cells #[.bool false, .bool deep, .int .i64 mn, .int .i64 mx, .int .i64 1000] 37)) (.cells #[.string ⟨#[]⟩, .slice none 0 0, .int .i64 0] 27)
    simpa using this
  have e3 : W0.heap[n0 + 3]? = some (.cells #[.int .i64 0] 28 (0, 0)) := by
    rw [← hW0, ← hn0]
    have := World.alloc_heap_new (((w.alloc (.cells #[.string ⟨#[45, 116, 114, 117, 101]⟩, .string ⟨#[]⟩, .int .i64 0, .int .i64 0, .slice none 0 0] 35)).alloc (.cells #[.bool false, .bool deep, .int .i64 mn, .int .i64 mx, .int .i64 1000] 37)).alloc (.cells #[.string ⟨#[]⟩, .slice none 0 0, .int .i64 0] 27)) (.cells #[.int .i64 0] 28)
    simpa using this
  have o0 : W0.cell? ⟨n0 + 1, 0, none⟩ = some (.bool false) := by rw [Lib.cell_of_heap e1]; rfl
  have o1 : W0.cell? ⟨n0 + 1, 1, none⟩ = some (.bool deep) := by rw [Lib.cell_of_heap e1]; rfl
  have o2 : W0.cell? ⟨n0 + 1, 2, none⟩ = some (.int .i64 mn) := by rw [Lib.cell_of_heap e1]; rfl
  have o3 : W0.cell? ⟨n0 + 1, 3, none⟩ = some (.int .i64 mx) := by rw [Lib.cell_of_heap e1]; rfl
  have o4 : W0.cell? ⟨n0 + 1, 4, none⟩ = some (.int .i64 1000) := by rw [Lib.cell_of_heap e1]; rfl
  have HIR := hide (inRange_any deep mn mx 1000 W0 h1 h2 (by decide) (by decide))
  have HW0 := hide hW0
  have HP := hide (⟨hz0, hb0, e0, e1, e2, e3, hrow, hgs⟩ : _ ∧ _ ∧ _ ∧ _ ∧ _ ∧ _ ∧ _ ∧ _)
  clear hW0 hz0 hb0 e0 e1 e2 e3 hrow hgs
  go_enter_defers Tryz.func8, Tryz.ntmps8
  go_wp2_with (rw [HW0.out])
  go_wp2_with fail
  refine HIR.out.mono ?_
  rintro e w1 ⟨rfl, hb1⟩
  obtain ⟨hz0, hb0, e0, e1, e2, e3, hrow, hgs⟩ := HP.out
  have f0 := (hb1.block n0 (by omega)).trans e0
  have f1 := (hb1.block (n0 + 1) (by omega)).trans e1
  clear o0 o1 o2 o3 o4
  have o0 : w1.cell? ⟨n0 + 1, 0, none⟩ = some (.bool false) := by rw [Lib.cell_of_heap f1]; rfl
  have o1 : w1.cell? ⟨n0 + 1, 1, none⟩ = some (.bool deep) := by rw [Lib.cell_of_heap f1]; rfl
  have o2 : w1.cell? ⟨n0 + 1, 2, none⟩ = some (.int .i64 mn) := by rw [Lib.cell_of_heap f1]; rfl
  have o3 : w1.cell? ⟨n0 + 1, 3, none⟩ = some (.int .i64 mx) := by rw [Lib.cell_of_heap f1]; rfl
  have o4 : w1.cell? ⟨n0 + 1, 4, none⟩ = some (.int .i64 1000) := by rw [Lib.cell_of_heap f1]; rfl
  have t0 : w1.cell? ⟨n0, 0, none⟩ = some (.string ⟨#[45, 116, 114, 117, 101]⟩) := by rw [Lib.cell_of_heap f0]; rfl
  have t1 : w1.cell? ⟨n0, 1, none⟩ = some (.string ⟨#[]⟩) := by rw [Lib.cell_of_heap f0]; rfl
  have t2 : w1.cell? ⟨n0, 2, none⟩ = some (.int .i64 0) := by rw [Lib.cell_of_heap f0]; rfl
  have t3 : w1.cell? ⟨n0, 3, none⟩ = some (.int .i64 0) := by rw [Lib.cell_of_heap f0]; rfl
  have t4 : w1.cell? ⟨n0, 4, none⟩ = some (.slice none 0 0) := by rw [Lib.cell_of_heap f0]; rfl
  have HNW := hide (newW_any g cap L.length deep mn mx 1000 (by have := hK.lim; omega) w1)
  have HB1 := hide hb1
  clear hz0 hb0 e0 e1 e2 e3 hrow hgs f0 f1 hb1
  go_wp2_with fail
  refine HNW.out.mono ?_
  rintro e w2 ⟨b, gm, ga, kb, kr, wb, eb, iv, rfl, hN, hkb, hkr, hpr, hb2⟩
  obtain ⟨hz0, hb0, e0, e1, e2, e3, hrow, hgs⟩ := HP.out
  have hb1 := HB1.out
  have s1 := hb1.size
  have s2 := hb2.size
  have hw1 : Below n0 w w1 := hb0.trans (hb1.mono (by omega))
  have hw2 : Below n0 w w2 := hw1.trans (hb2.mono (by omega))
  have hrow2 : NodeRow w1.heap.size w2 (.slice (some ⟨g, 0, none⟩) L.length cap) L := node_mono (hrow.below (by rw [hn0]; exact hw2)) (by rw [hn0]; omega)
  obtain ⟨W3, hW3⟩ : ∃ W3, w2.alloc (.cells #[.pointer (some ⟨b, 0, none⟩)] 63) = W3 := ⟨_, rfl⟩
  have hb3 : Below w2.heap.size w2 W3 := by rw [← hW3]; exact (Below.refl _ _).alloc (Nat.le_refl _) _
  have hx3 : W3.heap[w2.heap.size]? = some (.cells #[.pointer (some ⟨b, 0, none⟩)] 63 (0, 0)) := by rw [← hW3]; exact World.alloc_heap_new w2 _
  have hst := (init_st hN hrow2).below hb3
  have hj := jtrue_stab _ _ _ _ _ _ _ _ _ (init_j hN hkb hkr hpr) (TurnC.of_below hb3)
  have hSt := start_any (jtrue_asks L ⟨b, ga, gm, g, cap, kb, w1.heap.size, deep, mn, mx, 1000, iv⟩ kr wb eb (Int.le_refl _)) hK (fun _ => False) W3 ⟨hst, hj, by decide, by decide, by simpa using hvl, fun i _ hi => by rw [List.getElem?_replicate, if_pos hi]⟩
  have hgl : gs < n0 := by rw [← hn0]; exact (Array.getElem?_eq_some_iff.1 hgs).1
  have hg3 : W3.heap[gs]? = some (.cells #[.string ⟨#[47]⟩] 9 (0, 0)) := (hb3.block gs (by have := hw2.size; rw [hn0] at this; omega)).trans ((hw2.block gs hgl).trans hgs)
  have g3 : W3.cell? ⟨gs, 0, none⟩ = some (.string ⟨#[47]⟩) := one_cell hg3
  have x3 : W3.cell? ⟨w2.heap.size, 0, none⟩ = some (.pointer (some ⟨b, 0, none⟩)) := one_cell hx3
  have k2 : W3.heap[n0 + 2]? = some (.cells #[.string ⟨#[]⟩, .slice none 0 0, .int .i64 0] 27 (0, 0)) := (hb3.block _ (by omega)).trans ((hb2.block _ (by omega)).trans ((hb1.block _ (by omega)).trans e2))
  have k3 : W3.heap[n0 + 3]? = some (.cells #[.int .i64 0] 28 (0, 0)) := (hb3.block _ (by omega)).trans ((hb2.block _ (by omega)).trans ((hb1.block _ (by omega)).trans e3))
  have hw3 : Below n0 w W3 := hw2.trans (hb3.mono (by omega))
  have hc1 : n0 + 4 ≤ w1.heap.size := by omega
  have HW3 := hide hW3
  have HSt := hide hSt
  have HY := hide (⟨hst, hx3, k2, k3, hw3⟩ : _ ∧ _ ∧ _ ∧ _ ∧ _)
  clear hz0 hb0 e0 e1 e2 e3 hrow hgs hb1 hw1 hw2 hrow2 hW3 hb3 hx3 hst hj hSt hg3 k2 k3 hw3 hb2 hN hkb hkr hpr s1 s2 HIR HNW o0 o1 o2 o3 o4 t0 t1 t2 t3 t4
  go_wp2_with (rw [HW3.out])
  refine wp_loop_rounds 2 ?_
  rw [rounds_succ]
  go_wp2_with fail
  refine HSt.out.mono ?_
  rintro e w4 ⟨rfl, pv4, bv4, tv4, nn4, E4, h4, j4, T4, o4, m4⟩
  obtain ⟨hst, hx3, k2, k3, hw3⟩ := HY.out
  have nd3 : ∀ {k : Nat} {a : Array Value} {t : TypeId} {y : Nat × Nat}, W3.heap[k]? = some (.cells a t y) → t ≠ 91 → t ≠ 4 → w4.heap[k]? = some (.cells a t y) := by
    intro k a t y hk h1 h2
    refine (T4.block k (Array.getElem?_eq_some_iff.1 hk).1 ?_).trans hk
    rintro ((e | e | e | e) | e)
    · have e : k = b := e
      subst e
      exact ty_ne hk hst.blk h1
    · have e : k = ga := e
      subst e
      exact ty_ne hk hst.abv h2
    · cases e
    · cases e
    · exact e
  have x4 := one_cell (nd3 hx3 (by decide) (by decide))
  have k24 := nd3 k2 (by decide) (by decide)
  have k34 := nd3 k3 (by decide) (by decide)
  have hw4 : Below n0 w w4 := hw3.trans (turn_low T4 (fun k hk => by rcases hk with q | q; have := (hst.lts k q).1; show n0 ≤ k; have hB : w1.heap.size ≤ k := this; omega; exact q.elim) (by have := hw3.size; rw [hn0] at this; exact this))
  obtain ⟨ta, tc, rfl⟩ : ∃ ta tc, tv4 = .slice ta nn4 tc := by
    obtain ⟨ts, hts⟩ := h4.nts
    rcases hts.2 with ⟨e, e2⟩ | ⟨g, cap, cur, e, _⟩
    · exact ⟨none, 0, by rw [e, e2]⟩
    · exact ⟨_, _, e⟩
  have hR := result_any w4 h4 (by have := o4; omega)
  have HR := hide hR
  have HZ := hide (⟨k24, k34, hw4⟩ : _ ∧ _ ∧ _)
  clear hst hx3 k2 k3 hw3 h4 j4 T4 o4 m4 nd3 k24 k34 hw4 hR HSt x3 g3
  go_wp2
  rw [rounds_succ]
  go_wp2_with fail
  refine HR.out.mono ?_
  rintro e w5 ⟨st, rfl, hb5⟩
  obtain ⟨k24, k34, hw4⟩ := HZ.out
  have k25 : w5.heap[n0 + 1 + 1]? = _ := (hb5.block (n0 + 2) (by show n0 + 2 < w1.heap.size; omega)).trans k24
  have k35 : w5.heap[n0 + 1 + 1 + 1]? = _ := (hb5.block (n0 + 3) (by show n0 + 3 < w1.heap.size; omega)).trans k34
  have z0 : w5.cell? ⟨n0 + 1 + 1, 0, none⟩ = some (.string ⟨#[]⟩) := by rw [Lib.cell_of_heap k25]; rfl
  have z1 : w5.cell? ⟨n0 + 1 + 1, 1, none⟩ = some (.slice none 0 0) := by rw [Lib.cell_of_heap k25]; rfl
  have z2 : w5.cell? ⟨n0 + 1 + 1, 2, none⟩ = some (.int .i64 0) := by rw [Lib.cell_of_heap k25]; rfl
  have z3 : w5.cell? ⟨n0 + 1 + 1 + 1, 0, none⟩ = some (.int .i64 0) := one_cell k35
  have y0 := Lib.frozen_of_heap k25 0
  have y1 := Lib.frozen_of_heap k25 1
  have y2 := Lib.frozen_of_heap k25 2
  have y3 := Lib.frozen_of_heap k35 0
  have HB5 : Hid (Below n0 w w5) := hw4.trans (hb5.mono (by show n0 ≤ w1.heap.size; omega))
  clear k24 k34 hw4 k25 k35 hb5 HR HZ
  go_wp2
  refine leaves_cons (f := 23) (args := #[.pointer (some ⟨w2.heap.size, 0, none⟩), .pointer (some ⟨n0 + 1 + 1, 0, none⟩), .pointer (some ⟨n0 + 1 + 1 + 1, 0, none⟩)]) (by simp) (by simp [go_sem]) ?_
  refine (wcatch_idle _ _ _ _).mono ?_
  rintro e u' w6 ⟨rfl, rfl, rfl⟩
  simp [Leaves, settle, results, Tryz.results8, go_sem, z0, z1, z2, z3]
  rw [hn0]
  exact (((HB5.out.setCell (p := ⟨n0 + 1 + 1, 0, none⟩) (by show n0 ≤ n0 + 1 + 1; omega) _).setCell (p := ⟨n0 + 1 + 1, 1, none⟩) (by show n0 ≤ n0 + 1 + 1; omega) _).setCell (p := ⟨n0 + 1 + 1, 2, none⟩) (by show n0 ≤ n0 + 1 + 1; omega) _).setCell (p := ⟨n0 + 1 + 1 + 1, 0, none⟩) (by show n0 ≤ n0 + 1 + 1 + 1; omega) _
end Go.Proofs.YtfemboojdablhaaGreatDoor.Tre
namespace Go.Proofs.YtfemboojdablhaaGreatDoor.Tre
open Go.RowKit Go.Shelf
abbrev ignV : Value := .agg #[.string ⟨#[45, 105, 103, 110, 111, 114, 101, 100]⟩, .string ⟨#[]⟩, .int .i64 0, .int .i64 0, .slice none 0 0]
set_option maxRecDepth 100000 in
theorem isAction_ign (w : World) : Calls Tryz.prog 68 #[.string ⟨#[45, 105, 103, 110, 111, 114, 101, 100]⟩] w fun e w' => e = .returned (.bool false) ∧ w' = w := by
  go_enter Tryz.func68, Tryz.ntmps68
  go_wp2
  go_ret
  exact ⟨rfl, rfl⟩
set_option maxRecDepth 100000 in
set_option maxHeartbeats 2000000 in
theorem acts_ign (w : World) : Calls Tryz.prog 39 #[ignV] w fun e w' => e = .returned (.bool false) ∧ Below w.heap.size w w' := by
  go_enter Tryz.func39, Tryz.ntmps39
  go_wp2
  refine wp_loop_rounds 2 ?_
  rw [rounds_succ]
  go_wp2_with (go_at_call 68; refine (isAction_ign _).mono ?_; rintro e w1 ⟨rfl, rfl⟩)
  go_region
  all_goals go_wp2
  all_goals rw [rounds_succ]
  all_goals go_wp2
  all_goals go_ret
  all_goals refine ⟨rfl, ?_⟩
  all_goals (repeat first | exact Below.refl _ _ | refine Below.drew ?_ | refine Below.setCell ?_ (by first | omega | (simp; done) | (simp; omega)) _ | refine Below.alloc ?_ (by first | omega | (simp; done) | (simp; omega)) _)
set_option maxRecDepth 100000 in
set_option maxHeartbeats 1000000 in
theorem checkOf_ign (b pI : Nat) (w : World) (hc : w.cell? ⟨b, 7, none⟩ = some (.func (.func 60) #[] #[.pointer (some ⟨pI, 0, none⟩)])) (hb : b < w.heap.size) : Calls Tryz.prog 38 #[.pointer (some ⟨b, 0, none⟩), ignV] w fun e w' => e = .returned (.func (.func 60) #[] #[.pointer (some ⟨pI, 0, none⟩)]) ∧ Below w.heap.size w w' := by
  obtain ⟨W1, hW1⟩ : ∃ W1, w.alloc (.cells #[.string ⟨#[45, 105, 103, 110, 111, 114, 101, 100]⟩, .string ⟨#[]⟩, .int .i64 0, .int .i64 0, .slice none 0 0] 35) = W1 := ⟨_, rfl⟩
  have hb1 : Below w.heap.size w W1 := by rw [← hW1]; exact (Below.refl _ _).alloc (Nat.le_refl _) _
  have HB1 := hide hb1
  have hx : W1.heap[w.heap.size]? = some (.cells #[.string ⟨#[45, 105, 103, 110, 111, 114, 101, 100]⟩, .string ⟨#[]⟩, .int .i64 0, .int .i64 0, .slice none 0 0] 35 (0, 0)) := by rw [← hW1]; exact World.alloc_heap_new w _
  have c0 : W1.cell? ⟨w.heap.size, 0, none⟩ = some (.string ⟨#[45, 105, 103, 110, 111, 114, 101, 100]⟩) := by rw [Lib.cell_of_heap hx]; rfl
  have c7 : W1.cell? ⟨b, 7, none⟩ = some (.func (.func 60) #[] #[.pointer (some ⟨pI, 0, none⟩)]) := (hb1.cell (p := ⟨b, 7, none⟩) hb).trans hc
  have HW1 := hide hW1
  clear hW1 hb1 hx hc
  go_enter Tryz.func38, Tryz.ntmps38
  go_wp2_with (rw [HW1.out])
  go_wp2
  go_ret
  exact ⟨rfl, HB1.out⟩
theorem lay_append : ∀ (xs ys : List Obj) (w : World), lay w (xs ++ ys) = lay (lay w xs) ys
  | [], _, _ => rfl
  | _ :: r, ys, _ => lay_append r ys _
def igL (n0 : Nat) (v : Value) : List Obj := askL n0 v ++ [.cells #[.func (.func 56) #[] #[.pointer (some ⟨n0, 0, none⟩), .pointer (some ⟨n0 + 8, 0, none⟩)]] 75, .map #[] 0, .cells #[.map (some (n0 + 10))] 144, .cells #[.func (.func 85) #[] #[.pointer (some ⟨n0 + 11, 0, none⟩), .pointer (some ⟨n0 + 9, 0, none⟩)]] 75]
set_option maxRecDepth 100000 in
set_option maxHeartbeats 4000000 in
theorem wign_lay (a : Option Addr) (n c : Nat) (w : World) : Calls Tryz.prog 37 #[.slice a n c] w fun e w' => e = .returned (.func (.func 60) #[] #[.pointer (some ⟨w.heap.size + 12, 0, none⟩)]) ∧ w' = lay w (igL w.heap.size (.slice a n c)) := by
  obtain ⟨n0, hn0⟩ : ∃ n0, w.heap.size = n0 := ⟨_, rfl⟩
  obtain ⟨z1, l1, f1⟩ := lay_facts (askL w.heap.size (.slice a n c)) w
  have hAs := asker_any a n c w
  obtain ⟨W, hW⟩ : ∃ W, lay w (askL w.heap.size (.slice a n c)) = W := ⟨_, rfl⟩
  rw [hW] at hAs z1
  rw [hn0] at hAs z1
  replace z1 : W.heap.size = n0 + 9 := z1
  have HZ := hide z1
  have HW := hide hW
  clear l1 f1 z1 hW
  go_enter Tryz.func37, Tryz.ntmps37
  go_wp2_with fail
  refine hAs.mono ?_
  rintro e w' ⟨rfl, hw⟩
  rw [hw]
  clear hw w' hAs
  go_wp2_with fail
  refine (answers2_any _ _ _ _).mono ?_
  rintro e w' ⟨rfl, hw⟩
  rw [hw]
  clear hw w'
  go_wp2
  go_ret
  have z1 := HZ.out
  refine ⟨?_, ?_⟩
  · simp [z1, hn0]
  · rw [hn0]
    unfold igL
    rw [lay_append, ← hn0, HW.out]
    simp [lay, z1, hn0]
set_option maxRecDepth 100000 in
theorem wignoredJ (a6 a2 a4 : Addr) (C g cap : Nat) (L : List NodeD) (D : Nat → Prop) (w : World) (hG : GW w) (hS : Sn C a6 a2 a4 w) (h14 : 14 ≤ C) (hrow : NodeRow C w (.slice (some ⟨g, 0, none⟩) L.length cap) L) (hC : C ≤ w.heap.size) (hD : ∀ k, D k → C ≤ k ∧ k < w.heap.size) :
    Calls Tryz.prog 37 #[.slice (some ⟨g, 0, none⟩) L.length cap] w fun e w' => ∃ f : IgF, e = .returned (.func (.func 60) #[] #[.pointer (some ⟨f.bx, 0, none⟩)]) ∧ JI L f D (fun k => k = f.m1 ∨ k = f.m2 ∨ k = f.m3) w' ∧ (w.heap.size ≤ f.m1 ∧ w.heap.size ≤ f.m2 ∧ w.heap.size ≤ f.m3) ∧ Below w.heap.size w w' := by
  refine (wign_lay (some ⟨g, 0, none⟩) L.length cap w).mono ?_
  rintro e w' ⟨rfl, rfl⟩
  obtain ⟨n0, hn0⟩ : ∃ n0, w.heap.size = n0 := ⟨_, rfl⟩
  obtain ⟨z1, l1, f1⟩ := lay_facts (igL w.heap.size (.slice (some ⟨g, 0, none⟩) L.length cap)) w
  obtain ⟨W, hW⟩ : ∃ W, lay w (igL w.heap.size (.slice (some ⟨g, 0, none⟩) L.length cap)) = W := ⟨_, rfl⟩
  rw [hW] at z1 l1 f1
  rw [hn0] at z1 l1 f1 hC hD
  rw [hW, hn0]
  replace z1 : W.heap.size = n0 + 13 := z1
  have e0 : Boxed W n0 31 (.slice (some ⟨g, 0, none⟩) L.length cap) := f1 0 _ rfl
  have e1 : Boxed W (n0 + 1) 108 (.func (.func 51) #[] #[.pointer (some ⟨n0, 0, none⟩)]) := f1 1 _ rfl
  have e2 : W.heap[n0 + 2]? = some (.map #[] 0) := f1 2 _ rfl
  have e3 : Boxed W (n0 + 3) 139 (.map (some (n0 + 2))) := f1 3 _ rfl
  have e4 : Boxed W (n0 + 4) 108 (.func (.func 83) #[] #[.pointer (some ⟨n0 + 3, 0, none⟩), .pointer (some ⟨n0 + 1, 0, none⟩)]) := f1 4 _ rfl
  have e5 : Boxed W (n0 + 5) 75 (.func (.func 54) #[] #[.pointer (some ⟨n0, 0, none⟩), .pointer (some ⟨n0 + 4, 0, none⟩)]) := f1 5 _ rfl
  have e6 : W.heap[n0 + 6]? = some (.map #[] 0) := f1 6 _ rfl
  have e7 : Boxed W (n0 + 7) 144 (.map (some (n0 + 6))) := f1 7 _ rfl
  have e8 : Boxed W (n0 + 8) 75 (.func (.func 85) #[] #[.pointer (some ⟨n0 + 7, 0, none⟩), .pointer (some ⟨n0 + 5, 0, none⟩)]) := f1 8 _ rfl
  have e9 : Boxed W (n0 + 9) 75 (.func (.func 56) #[] #[.pointer (some ⟨n0, 0, none⟩), .pointer (some ⟨n0 + 8, 0, none⟩)]) := f1 9 _ rfl
  have e10 : W.heap[n0 + 10]? = some (.map #[] 0) := f1 10 _ rfl
  have e11 : Boxed W (n0 + 11) 144 (.map (some (n0 + 10))) := f1 11 _ rfl
  have e12 : Boxed W (n0 + 12) 75 (.func (.func 85) #[] #[.pointer (some ⟨n0 + 11, 0, none⟩), .pointer (some ⟨n0 + 9, 0, none⟩)]) := f1 12 _ rfl
  have memo0 : ∀ (b : Nat) (Ok : Nat → Value → Prop), W.heap[b]? = some (.map #[] 0) → Memo b 1000001 Ok W := fun b Ok hb =>
    ⟨.map [], ⟨#[], 0, hb, ⟨by simp, Go.MapKept.stamped_empty 0, by simp⟩, Nat.zero_le _, rfl⟩, few_empty, Go.Maps.isMap_empty, fun k h => by cases h⟩
  refine ⟨⟨g, cap, C, n0, n0 + 4, n0 + 3, n0 + 1, n0 + 7, n0 + 5, n0 + 2, n0 + 6, n0 + 8, n0 + 11, n0 + 9, n0 + 10, n0 + 12, a6, a2, a4⟩, rfl, ⟨?_, fun k => Iff.rfl, e8, e11, e9, e12, memo0 _ _ e10, ?_, fun k q => (hD k q).1, by show C ≤ n0 + 10; omega, ?_, ?_, ?_⟩, ?_, l1⟩
  · exact ⟨hrow.below (l1.mono (by omega)), hG.below (by rw [hn0]; exact l1), hS.below (l1.mono (by omega)) h14, h14, .inr (.inl rfl), .inr (.inr (.inl rfl)), by simp only []; omega, by simp only []; omega, by simp only []; omega, e0, e4, e3, e1, e7, e5, memo0 _ _ e2, memo0 _ _ e6⟩
  · intro k hk hd
    have := (hD k hd).2
    simp only [IgF.own, List.mem_cons, List.not_mem_nil, or_false] at hk
    omega
  · simp only []; omega
  · simp only []; omega
  · simp only []; omega
  · simp only []; omega
set_option maxRecDepth 100000 in
set_option maxHeartbeats 4000000 in
theorem newW_ign (a6 a2 a4 : Addr) (C g cap : Nat) (L : List NodeD) (n : Nat) (hnL : L.length = n) (deep : Bool) (mn mx ms : Int) (hn : n ≤ 1000) (w : World) (hG : GW w) (hS : Sn C a6 a2 a4 w) (h14 : 14 ≤ C) (hrow : NodeRow C w (.slice (some ⟨g, 0, none⟩) n cap) L) (hC : C ≤ w.heap.size) :
    Calls Tryz.prog 22 #[.slice (some ⟨g, 0, none⟩) n cap, ignV, optV deep mn mx ms] w fun e w' => ∃ (b gm ga kb kr wb eb : Nat) (f : IgF) (iv : Value), e = .returned (.pointer (some ⟨b, 0, none⟩)) ∧
      NewW w.heap.size g n cap deep mn mx ms (.func (.func 69) #[] #[.pointer (some ⟨kb, 0, none⟩)]) iv b gm ga w' ∧ w'.heap[kb]? = some (.cells #[.slice (some ⟨kr, 0, none⟩) 2 2] 97 (0, 0)) ∧ w'.heap[kr]? = some (.cells #[.func (.func 60) #[] #[.pointer (some ⟨f.bx, 0, none⟩)], .func (.func 70) #[] #[.pointer (some ⟨wb, 0, none⟩), .pointer (some ⟨eb, 0, none⟩)]] 85 (0, 0)) ∧ PrB w' b wb eb ∧ JI L f (fun k => k = b ∨ k = ga) (fun k => k = f.m1 ∨ k = f.m2 ∨ k = f.m3) w' ∧ (w.heap.size ≤ f.m1 ∧ w.heap.size ≤ f.m2 ∧ w.heap.size ≤ f.m3) ∧ Below w.heap.size w w' := by
  have HEN := hide (⟨hG, hS, hrow⟩ : _ ∧ _ ∧ _)
  clear hG hS hrow
  obtain ⟨n0, hn0⟩ : ∃ n0, w.heap.size = n0 := ⟨_, rfl⟩
  obtain ⟨W0, hW0⟩ : ∃ W0, (w.alloc (.cells #[.string ⟨#[45, 105, 103, 110, 111, 114, 101, 100]⟩, .string ⟨#[]⟩, .int .i64 0, .int .i64 0, .slice none 0 0] 35)).alloc (.cells #[.bool false, .bool deep, .int .i64 mn, .int .i64 mx, .int .i64 ms] 37) = W0 := ⟨_, rfl⟩
  have hb0 : Below w.heap.size w W0 := by rw [← hW0]; exact ((Below.refl _ _).alloc (Nat.le_refl _) _).alloc (by simp) _
  have hz0 : W0.heap.size = n0 + 2 := by rw [← hW0, ← hn0]; simp
  have ht0 : W0.heap[n0]? = some (.cells #[.string ⟨#[45, 105, 103, 110, 111, 114, 101, 100]⟩, .string ⟨#[]⟩, .int .i64 0, .int .i64 0, .slice none 0 0] 35 (0, 0)) := by
    rw [← hW0, ← hn0, Below.heap_alloc _ _ _ (by simp)]; exact World.alloc_heap_new w _
  have ho0 : W0.heap[n0 + 1]? = some (.cells #[.bool false, .bool deep, .int .i64 mn, .int .i64 mx, .int .i64 ms] 37 (0, 0)) := by
    rw [← hW0, ← hn0]
    have := World.alloc_heap_new (w.alloc (.cells #[.string ⟨#[45, 105, 103, 110, 111, 114, 101, 100]⟩, .string ⟨#[]⟩, .int .i64 0, .int .i64 0, .slice none 0 0] 35)) (.cells #[.bool false, .bool deep, .int .i64 mn, .int .i64 mx, .int .i64 ms] 37)
    simpa using this
  have o0 : W0.cell? ⟨n0 + 1, 0, none⟩ = some (.bool false) := by rw [Lib.cell_of_heap ho0]; rfl
  have o1 : W0.cell? ⟨n0 + 1, 1, none⟩ = some (.bool deep) := by rw [Lib.cell_of_heap ho0]; rfl
  have o2 : W0.cell? ⟨n0 + 1, 2, none⟩ = some (.int .i64 mn) := by rw [Lib.cell_of_heap ho0]; rfl
  have o3 : W0.cell? ⟨n0 + 1, 3, none⟩ = some (.int .i64 mx) := by rw [Lib.cell_of_heap ho0]; rfl
  have o4 : W0.cell? ⟨n0 + 1, 4, none⟩ = some (.int .i64 ms) := by rw [Lib.cell_of_heap ho0]; rfl
  have HMK := hide (make_bools n hn)
  have HW0 := hide hW0
  have HP := hide (⟨hb0, hz0, ht0, ho0⟩ : _ ∧ _ ∧ _ ∧ _)
  have hmk := make_bools n hn
  clear hb0 hz0 ht0 ho0 hW0
  go_enter Tryz.func22, Tryz.ntmps22
  go_upto_region 1 with (rw [HW0.out])
  go_cut [7] from 8 (fun v wx => ∃ b gm ga, v = .pointer (some ⟨b, 0, none⟩) ∧ NewW n0 g n cap deep mn mx ms .nilFunc .nilFunc b gm ga wx ∧ Below W0.heap.size W0 wx)
  case first =>
    have z0 : n0 + 2 ≤ W0.heap.size := by have := HP.out.2.1; omega
    have HC : Hid (∀ X, Below W0.heap.size W0 X → n0 + 2 ≤ X.heap.size ∧ X.cell? ⟨n0 + 1, 0, none⟩ = some (.bool false) ∧ X.cell? ⟨n0 + 1, 1, none⟩ = some (.bool deep) ∧ X.cell? ⟨n0 + 1, 2, none⟩ = some (.int .i64 mn) ∧ X.cell? ⟨n0 + 1, 3, none⟩ = some (.int .i64 mx) ∧ X.cell? ⟨n0 + 1, 4, none⟩ = some (.int .i64 ms)) := fun X hX =>
      ⟨Nat.le_trans z0 hX.size, (hX.cell (p := ⟨n0 + 1, _, none⟩) z0).trans o0, (hX.cell (p := ⟨n0 + 1, _, none⟩) z0).trans o1, (hX.cell (p := ⟨n0 + 1, _, none⟩) z0).trans o2, (hX.cell (p := ⟨n0 + 1, _, none⟩) z0).trans o3, (hX.cell (p := ⟨n0 + 1, _, none⟩) z0).trans o4⟩
    go_region_held3 (fun w' => w'.cell? ⟨n0 + 1, 0, none⟩ = some (.bool false) ∧ w'.cell? ⟨n0 + 1, 1, none⟩ = some (.bool deep) ∧ w'.cell? ⟨n0 + 1, 2, none⟩ = some (.int .i64 mn) ∧ w'.cell? ⟨n0 + 1, 3, none⟩ = some (.int .i64 mx) ∧ w'.cell? ⟨n0 + 1, 4, none⟩ = some (.int .i64 ms)) (go_keep) (first | (go_at_call 36; refine (meant_any _ _ _ hn _).mono ?_; rintro e w6 ⟨rfl, hm6, hz6, hb6⟩; have hbX : Below W0.heap.size W0 w6 := Below.trans (by repeat first | exact Below.refl _ _ | refine Below.drew ?_ | refine Below.alloc ?_ (by first | omega | (simp; done) | (simp; omega)) _) (hb6.mono (by first | omega | (simp; done) | (simp; omega))); obtain ⟨q0, q1, q2, q3, q4, q5⟩ := HC.out w6 hbX))
    all_goals go_wp2
    all_goals go_meet
    · have hz := HP.out.2.1
      replace hz6 : w6.heap.size = W0.heap.size + 1 := hz6
      refine ⟨_, W0.heap.size, W0.heap.size + 1, rfl, ⟨?_, ?_, ?_, by omega, by omega, by omega⟩, ?_⟩
      · have := World.alloc_heap_new (w6.alloc (Obj.cells (Array.replicate n (Value.bool false)) 4)) (Obj.cells #[Value.slice (some ⟨g, 0, none⟩) n cap, Value.bool false, Value.bool deep, Value.int IntKind.i64 mn, Value.int IntKind.i64 mx, Value.int IntKind.i64 ms, Value.nilFunc, Value.nilFunc, Value.slice (some ⟨W0.heap.size, 0, none⟩) n n, Value.slice (some ⟨W0.heap.size + 1, 0, none⟩) n n, Value.int IntKind.i64 0, Value.pointer none, Value.slice none 0 0, Value.slice none 0 0] 91)
        rw [show (w6.alloc (Obj.cells (Array.replicate n (Value.bool false)) 4)).heap.size = W0.heap.size + 1 + 1 from by simp; omega] at this
        exact this
      · rw [Below.heap_alloc _ _ _ (by simp; omega), Below.heap_alloc _ _ _ (by omega)]
        exact hm6
      · rw [Below.heap_alloc _ _ _ (by simp; omega)]
        have := World.alloc_heap_new w6 (Obj.cells (Array.replicate n (Value.bool false)) 4)
        rw [hz6] at this
        exact this
      · exact (hbX.alloc (by omega) _).alloc (by simp; omega) _
    · have hz := HP.out.2.1
      have hsz : (W0.alloc (Obj.cells (Array.replicate n (Value.bool false)) 4)).drew.heap.size = W0.heap.size + 1 := by simp
      rw [hsz] at hz6 hm6 hb6
      refine ⟨_, W0.heap.size + 1, W0.heap.size, rfl, ⟨?_, ?_, ?_, by omega, by omega, by omega⟩, ?_⟩
      · have := World.alloc_heap_new w6 (Obj.cells #[Value.slice (some ⟨g, 0, none⟩) n cap, Value.bool false, Value.bool deep, Value.int IntKind.i64 mn, Value.int IntKind.i64 mx, Value.int IntKind.i64 ms, Value.nilFunc, Value.nilFunc, Value.slice (some ⟨W0.heap.size + 1, 0, none⟩) n n, Value.slice (some ⟨W0.heap.size, 0, none⟩) n n, Value.int IntKind.i64 0, Value.pointer none, Value.slice none 0 0, Value.slice none 0 0] 91)
        rw [hz6] at this
        exact this
      · rw [Below.heap_alloc _ _ _ (by omega)]
        exact hm6
      · rw [Below.heap_alloc _ _ _ (by omega), hb6.block _ (by first | omega | (simp; done) | (simp; omega))]
        exact World.alloc_heap_new W0 _
      · exact hbX.alloc (by omega) _
  case rest =>
    obtain ⟨b, gm, ga, rfl, hN, hbc⟩ := hcut
    obtain ⟨hb0, hz0, ht0, ho0⟩ := HP.out
    have hB1 : Below w.heap.size w wc := hb0.trans (hbc.mono hb0.size)
    have hbl := hN.blk.lt
    have htw : wc.heap[n0]? = some (.cells #[.string ⟨#[45, 105, 103, 110, 111, 114, 101, 100]⟩, .string ⟨#[]⟩, .int .i64 0, .int .i64 0, .slice none 0 0] 35 (0, 0)) := (hbc.block n0 (by omega)).trans ht0
    have hLw : Below w.heap.size w wc := hB1
    have HI := wignoredJ a6 a2 a4 C g cap L (fun k => k = b ∨ k = ga) wc (HEN.out.1.below hLw) (HEN.out.2.1.below (hLw.mono hC) h14) h14 (by rw [hnL]; exact HEN.out.2.2.below (hLw.mono hC)) (Nat.le_trans hC hLw.size) (fun k q => by
      have l1 := hN.lb
      have l2 := hN.la
      have l3 : ga < wc.heap.size := (Array.getElem?_eq_some_iff.1 hN.abv).1
      rcases q with q | q
      · rw [q]; exact ⟨by omega, hbl⟩
      · rw [q]; exact ⟨by omega, l3⟩)
    rw [hnL] at HI
    have HI := hide HI
    have HX := hide (⟨hN, hB1, htw⟩ : _ ∧ _ ∧ _)
    clear hN hB1 htw hb0 hz0 ht0 ho0 hbc hmk o0 o1 o2 o3 o4
    go_wp2_with fail
    refine HI.out.mono ?_
    rintro e w2 ⟨f, rfl, hJ2, hm2, hb2⟩
    obtain ⟨pI, hpI⟩ : ∃ pI, f.bx = pI := ⟨_, rfl⟩
    rw [hpI]
    obtain ⟨hN, hB1, htw⟩ := HX.out
    have hN2 := hN.below hb2
    have f2 : w2.frozen? ⟨b, 7, none⟩ = false := hN2.blk.frozen 7
    have c2 : w2.cell? ⟨b, 7, none⟩ = some .nilFunc := hN2.blk.cell 7
    have hn0l : n0 < wc.heap.size := (Array.getElem?_eq_some_iff.1 htw).1
    have hbn : n0 ≠ b := fun e => ty_ne (e ▸ htw) hN.blk (by decide)
    obtain ⟨W3, hW3⟩ : ∃ W3, w2.setCell ⟨b, 7, none⟩ (.func (.func 60) #[] #[.pointer (some ⟨pI, 0, none⟩)]) = W3 := ⟨_, rfl⟩
    have hN3 : NewW n0 g n cap deep mn mx ms .nilFunc (.func (.func 60) #[] #[.pointer (some ⟨pI, 0, none⟩)]) b gm ga W3 := by rw [← hW3]; exact hN2.set (wset_block hN2.blk)
    have ht3 : W3.heap[n0]? = some (.cells #[.string ⟨#[45, 105, 103, 110, 111, 114, 101, 100]⟩, .string ⟨#[]⟩, .int .i64 0, .int .i64 0, .slice none 0 0] 35 (0, 0)) := by rw [← hW3, wset_other hbn, hb2.block n0 hn0l]; exact htw
    have hB3 : Below w.heap.size w W3 := by rw [← hW3]; exact (hB1.trans (hb2.mono hB1.size)).setCell (p := ⟨b, 7, none⟩) (by rw [hn0]; exact hN.lb) _
    have hz3 : n0 < W3.heap.size := (Array.getElem?_eq_some_iff.1 ht3).1
    have t0 : W3.cell? ⟨n0, 0, none⟩ = some (.string ⟨#[45, 105, 103, 110, 111, 114, 101, 100]⟩) := by rw [Lib.cell_of_heap ht3]; rfl
    have t1 : W3.cell? ⟨n0, 1, none⟩ = some (.string ⟨#[]⟩) := by rw [Lib.cell_of_heap ht3]; rfl
    have t2 : W3.cell? ⟨n0, 2, none⟩ = some (.int .i64 0) := by rw [Lib.cell_of_heap ht3]; rfl
    have t3 : W3.cell? ⟨n0, 3, none⟩ = some (.int .i64 0) := by rw [Lib.cell_of_heap ht3]; rfl
    have t4 : W3.cell? ⟨n0, 4, none⟩ = some (.slice none 0 0) := by rw [Lib.cell_of_heap ht3]; rfl
    have hJ3 : JI L f (fun k => k = b ∨ k = ga) (fun k => k = f.m1 ∨ k = f.m2 ∨ k = f.m3) W3 := by rw [← hW3]; exact ji_stab L f _ _ _ _ _ hJ2 (TurnC.setCell b 7 _ (.inl rfl))
    have hm3 : n0 ≤ f.m1 ∧ n0 ≤ f.m2 ∧ n0 ≤ f.m3 := by have := hB1.size; omega
    have HJ3 := hide (⟨hJ3, hm3, hpI⟩ : _ ∧ _ ∧ _)
    have c37 : W3.cell? ⟨b, 7, none⟩ = some (.func (.func 60) #[] #[.pointer (some ⟨pI, 0, none⟩)]) := hN3.blk.cell 7
    have HCK := hide (checkOf_ign b pI W3 c37 hN3.blk.lt)
    clear hJ2 hm2 hJ3 hm3 hpI c37
    have HW3 := hide hW3
    have HY := hide (⟨hN3, ht3, hB3, hbn⟩ : _ ∧ _ ∧ _ ∧ _)
    clear hN hB1 htw hN2 hN3 ht3 hB3 hb2 hW3 hbl hbn
    go_wp2_with (rw [HW3.out])
    go_wp2_with fail
    refine HCK.out.mono ?_
    rintro e w4 ⟨rfl, hb4⟩
    obtain ⟨hN3, ht3, hB3, hbn⟩ := HY.out
    have hN4 := hN3.below hb4
    have f4 : w4.frozen? ⟨b, 6, none⟩ = false := hN4.blk.frozen 6
    have c4 : w4.cell? ⟨b, 6, none⟩ = some .nilFunc := hN4.blk.cell 6
    obtain ⟨W5, hW5⟩ : ∃ W5, w4.setCell ⟨b, 6, none⟩ (.func (.func 60) #[] #[.pointer (some ⟨pI, 0, none⟩)]) = W5 := ⟨_, rfl⟩
    have hN5 : NewW n0 g n cap deep mn mx ms (.func (.func 60) #[] #[.pointer (some ⟨pI, 0, none⟩)]) (.func (.func 60) #[] #[.pointer (some ⟨pI, 0, none⟩)]) b gm ga W5 := by rw [← hW5]; exact hN4.set (wset_block hN4.blk)
    have ht5 : W5.heap[n0]? = some (.cells #[.string ⟨#[45, 105, 103, 110, 111, 114, 101, 100]⟩, .string ⟨#[]⟩, .int .i64 0, .int .i64 0, .slice none 0 0] 35 (0, 0)) := by rw [← hW5, wset_other hbn, hb4.block n0 hz3]; exact ht3
    have hB5 : Below w.heap.size w W5 := by rw [← hW5]; exact (hB3.trans (hb4.mono hB3.size)).setCell (p := ⟨b, 6, none⟩) (by rw [hn0]; exact hN3.lb) _
    have t0 : W5.cell? ⟨n0, 0, none⟩ = some (.string ⟨#[45, 105, 103, 110, 111, 114, 101, 100]⟩) := by rw [Lib.cell_of_heap ht5]; rfl
    have t1 : W5.cell? ⟨n0, 1, none⟩ = some (.string ⟨#[]⟩) := by rw [Lib.cell_of_heap ht5]; rfl
    have t2 : W5.cell? ⟨n0, 2, none⟩ = some (.int .i64 0) := by rw [Lib.cell_of_heap ht5]; rfl
    have t3 : W5.cell? ⟨n0, 3, none⟩ = some (.int .i64 0) := by rw [Lib.cell_of_heap ht5]; rfl
    have t4 : W5.cell? ⟨n0, 4, none⟩ = some (.slice none 0 0) := by rw [Lib.cell_of_heap ht5]; rfl
    have HJ5 : Hid (JI L f (fun k => k = b ∨ k = ga) (fun k => k = f.m1 ∨ k = f.m2 ∨ k = f.m3) W5) := by rw [← hW5]; exact ji_stab L f _ _ _ _ _ (HJ3.out.1.below hb4) (TurnC.setCell b 6 _ (.inl rfl))
    have HAC := hide (acts_ign W5)
    have HW5 := hide hW5
    have HZ := hide (⟨hN5, hB5⟩ : _ ∧ _)
    clear hN3 ht3 hB3 hbn hN4 hN5 ht5 hB5 hb4 hW5
    go_wp2_with (rw [HW5.out])
    go_wp2_with fail
    refine HAC.out.mono ?_
    rintro e w6 ⟨rfl, hb6⟩
    obtain ⟨hN5, hB5⟩ := HZ.out
    have hN6 := hN5.below hb6
    have hB6 : Below w.heap.size w w6 := hB5.trans (hb6.mono hB5.size)
    have c6 : w6.cell? ⟨b, 6, none⟩ = some (.func (.func 60) #[] #[.pointer (some ⟨pI, 0, none⟩)]) := hN6.blk.cell 6
    have f6 : w6.frozen? ⟨b, 6, none⟩ = false := hN6.blk.frozen 6
    have hbl6 := hN6.blk.lt
    have HU := hide (⟨hN6, hB6⟩ : _ ∧ _)
    have HJ6 := hide (HJ5.out.below hb6)
    clear hN5 hB5 hN6 hB6 hb6
    go_wp2_with fail
    go_region_with (first
      | (go_at_call 41; refine (print2_any b _).mono ?_; rintro e w7 ⟨wb, eb, rfl, hpr7, hb7⟩; have hs7 : b < w7.heap.size := Nat.lt_of_lt_of_le hbl6 hb7.size; have c7 : w7.cell? ⟨b, 6, none⟩ = some (.func (.func 60) #[] #[.pointer (some ⟨pI, 0, none⟩)]) := (hb7.cell (p := ⟨b, 6, none⟩) hbl6).trans c6)
      | (go_at_call 40; refine (allOf2_any _ _ ⟨_, _, _, rfl⟩).mono ?_; rintro e w8 ⟨kb, rfl, hkb8, hb8⟩; have hba : Below w7.heap.size w7 w8 := Below.trans ((Below.refl _ _).alloc (Nat.le_refl _) _) (hb8.mono (by simp)); have hB7 : Below w6.heap.size w6 w8 := ((Below.refl _ w6).drew.trans hb7).trans (hba.mono hb7.size); have c8 : w8.cell? ⟨b, 6, none⟩ = some (.func (.func 60) #[] #[.pointer (some ⟨pI, 0, none⟩)]) := (hB7.cell (p := ⟨b, 6, none⟩) hbl6).trans c6; have f8 : w8.frozen? ⟨b, 6, none⟩ = false := (hB7.frozen (p := ⟨b, 6, none⟩) hbl6).trans f6))
    all_goals go_wp2
    all_goals go_ret
    all_goals (
      obtain ⟨hN6, hB6⟩ := HU.out
      have hN8 := hN6.below hB7
      have hkr8 : w8.heap[w7.heap.size]? = some (.cells #[.func (.func 60) #[] #[.pointer (some ⟨pI, 0, none⟩)], .func (.func 70) #[] #[.pointer (some ⟨wb, 0, none⟩), .pointer (some ⟨eb, 0, none⟩)]] 85 (0, 0)) := (hb8.block _ (by simp)).trans (World.alloc_heap_new w7 _)
      have hw8 : w8.heap[wb]? = _ := (hba.block wb (Array.getElem?_eq_some_iff.1 hpr7.w).1).trans hpr7.w
      have he8 : w8.heap[eb]? = _ := (hba.block eb (Array.getElem?_eq_some_iff.1 hpr7.e).1).trans hpr7.e
      obtain ⟨_, hm3, hpI⟩ := HJ3.out
      have hJ8 := ji_stab L f _ _ _ _ _ (HJ6.out.below hB7) (TurnC.setCell (C := fun k => k = b ∨ k = ga) b 6 (.func (.func 69) #[] #[.pointer (some ⟨kb, 0, none⟩)]) (.inl rfl))
      rw [← hpI] at hkr8
      exact ⟨b, gm, ga, kb, w7.heap.size, wb, eb, f, _, rfl, by rw [hn0]; exact hN8.set (wset_block hN8.blk), (wset_other (fun e => ty_ne (e ▸ hkb8) hN8.blk (by decide))).trans hkb8, (wset_other (fun e => ty_ne (k := b) (e ▸ hkr8) hN8.blk (by decide))).trans hkr8, ⟨(wset_other (fun e => ty_ne (e ▸ hw8) hN8.blk (by decide))).trans hw8, (wset_other (fun e => ty_ne (e ▸ he8) hN8.blk (by decide))).trans he8⟩, hJ8, by rw [hn0]; exact hm3, (hB6.trans (hB7.mono hB6.size)).setCell (p := ⟨b, 6, none⟩) (by rw [hn0]; exact hN6.lb) _⟩)
end Go.Proofs.YtfemboojdablhaaGreatDoor.Tre
