/- Merged: WiD, WkV, WkW, TCopyN, WkX. -/
import Derived.Test.YtfemboojdablhaaGreatDoorMi42
import Derived.Test.YtfemboojdablhaaGreatDoorMi31
import Derived.Test.YtfemboojdablhaaGreatDoorMi32
import Derived.Test.YtfemboojdablhaaGreatDoorMi30
import Derived.Deep.RegionHeldLaw
import Derived.Deep.AppendLies
namespace Go.Proofs.YtfemboojdablhaaGreatDoor.Tre
open Go.RowKit Go.Shelf
theorem init_ji {L : List NodeD} {n0 g n cap : Nat} {deep : Bool} {mn mx ms : Int} {iv wv : Value} {b gm ga kb kr wb eb : Nat} {f : IgF} {W : World} (h : NewW n0 g n cap deep mn mx ms wv iv b gm ga W) (hkb : W.heap[kb]? = some (.cells #[.slice (some ⟨kr, 0, none⟩) 2 2] 97 (0, 0))) (hkr : W.heap[kr]? = some (.cells #[.func (.func 60) #[] #[.pointer (some ⟨f.bx, 0, none⟩)], .func (.func 70) #[] #[.pointer (some ⟨wb, 0, none⟩), .pointer (some ⟨eb, 0, none⟩)]] 85 (0, 0))) (hpr : PrB W b wb eb) (hJ : JI L f (fun k => k = b ∨ k = ga) (fun k => k = f.m1 ∨ k = f.m2 ∨ k = f.m3) W) (hm : n0 ≤ f.m1 ∧ n0 ≤ f.m2 ∧ n0 ≤ f.m3) :
    JIgn L ⟨b, ga, gm, g, cap, kb, n0, deep, mn, mx, ms, iv⟩ f kr wb eb (DS ⟨b, ga, gm, g, cap, kb, n0, deep, mn, mx, ms, iv⟩ (.slice none 0 0) (.slice none 0 0)) (fun k => k = f.m1 ∨ k = f.m2 ∨ k = f.m3) W := by
  have hd : ∀ k, DS ⟨b, ga, gm, g, cap, kb, n0, deep, mn, mx, ms, iv⟩ (.slice none 0 0) (.slice none 0 0) k → (k = b ∨ k = ga) := by
    rintro k (e | e | e | e)
    · exact .inl e
    · exact .inr e
    · cases e
    · cases e
  have nd : ∀ {k : Nat} {a : Array Value} {t : TypeId} {y : Nat × Nat}, W.heap[k]? = some (.cells a t y) → t ≠ 91 → t ≠ 4 → ¬ DS ⟨b, ga, gm, g, cap, kb, n0, deep, mn, mx, ms, iv⟩ (.slice none 0 0) (.slice none 0 0) k := by
    intro k a t y hk h1 h2 q
    rcases hd k q with rfl | rfl
    · exact ty_ne hk h.blk h1
    · exact ty_ne hk h.abv h2
  have hJ2 := ji_stab L f _ (DS ⟨b, ga, gm, g, cap, kb, n0, deep, mn, mx, ms, iv⟩ (.slice none 0 0) (.slice none 0 0)) _ W W hJ ⟨rfl, rfl, rfl, Nat.le_refl _, fun _ _ _ => rfl, fun k q => .inl (hd k q)⟩
  exact ⟨hkb, hkr, hpr, nd hkb (by decide) (by decide), nd hkr (by decide) (by decide), nd hpr.w (by decide) (by decide), nd hpr.e (by decide) (by decide), hJ2, hm⟩
set_option maxRecDepth 100000 in
set_option maxHeartbeats 4000000 in
theorem walk_ign {K : List ByteArray} (a6 a2 a4 : Addr) (L : List NodeD) (hK : KInv L K) (hTO : TOK L) (g cap gs : Nat) (deep : Bool) (mn mx : Int) (w : World) (h1 : 0 ≤ mn) (h2 : 0 ≤ mx) (hG : GW w) (hS : Sn w.heap.size a6 a2 a4 w) (hrow : NodeRow w.heap.size w (.slice (some ⟨g, 0, none⟩) L.length cap) L) (hgs : w.heap[gs]? = some (.cells #[.string ⟨#[47]⟩] 9 (0, 0))) (hvl : (visG L deep mx (L.length + 1) 0 ⟨#[47]⟩ 0).length ≤ 1000) :
    Calls Tryz.prog 8 #[.slice (some ⟨g, 0, none⟩) L.length cap, .slice (some ⟨gs, 0, none⟩) 1 1, ignV, optV deep mn mx 1000] w fun e w' => ∃ (ta : Option Addr) (tn tc : Nat) (st : Int), e = .returned (.tuple #[.agg #[.string ⟨(outW mn (ignD L) (visG L deep mx (L.length + 1) 0 ⟨#[47]⟩ 0)).toArray⟩, .slice ta tn tc, .int .i64 st], .int .i64 0]) ∧ Below w.heap.size w w' := by
  obtain ⟨n0, hn0⟩ : ∃ n0, w.heap.size = n0 := ⟨_, rfl⟩
  obtain ⟨W0, hW0⟩ : ∃ W0, (((w.alloc (.cells #[.string ⟨#[45, 105, 103, 110, 111, 114, 101, 100]⟩, .string ⟨#[]⟩, .int .i64 0, .int .i64 0, .slice none 0 0] 35)).alloc (.cells #[.bool false, .bool deep, .int .i64 mn, .int .i64 mx, .int .i64 1000] 37)).alloc (.cells #[.string ⟨#[]⟩, .slice none 0 0, .int .i64 0] 27)).alloc (.cells #[.int .i64 0] 28) = W0 := ⟨_, rfl⟩
  have hz0 : W0.heap.size = n0 + 4 := by rw [← hW0, ← hn0]; simp
  have hb0 : Below n0 w W0 := by rw [← hW0, ← hn0]; exact ((((Below.refl _ _).alloc (Nat.le_refl _) _).alloc (by simp) _).alloc (by first | (simp; done) | (simp; omega)) _).alloc (by first | (simp; done) | (simp; omega)) _
  have e0 : W0.heap[n0]? = some (.cells #[.string ⟨#[45, 105, 103, 110, 111, 114, 101, 100]⟩, .string ⟨#[]⟩, .int .i64 0, .int .i64 0, .slice none 0 0] 35 (0, 0)) := by
    rw [← hW0, ← hn0, Below.heap_alloc _ _ _ (by first | (simp; done) | (simp; omega)), Below.heap_alloc _ _ _ (by first | (simp; done) | (simp; omega)), Below.heap_alloc _ _ _ (by simp)]; exact World.alloc_heap_new w _
  have e1 : W0.heap[n0 + 1]? = some (.cells #[.bool false, .bool deep, .int .i64 mn, .int .i64 mx, .int .i64 1000] 37 (0, 0)) := by
    rw [← hW0, ← hn0, Below.heap_alloc _ _ _ (by first | (simp; done) | (simp; omega)), Below.heap_alloc _ _ _ (by simp)]
    have := World.alloc_heap_new (w.alloc (.cells #[.string ⟨#[45, 105, 103, 110, 111, 114, 101, 100]⟩, .string ⟨#[]⟩, .int .i64 0, .int .i64 0, .slice none 0 0] 35)) (.cells #[.bool false, .bool deep, .int .i64 mn, .int .i64 mx, .int .i64 1000] 37)
    simpa using this
  have e2 : W0.heap[n0 + 2]? = some (.cells #[.string ⟨#[]⟩, .slice none 0 0, .int .i64 0] 27 (0, 0)) := by
    rw [← hW0, ← hn0, Below.heap_alloc _ _ _ (by simp)]
    have := World.alloc_heap_new ((w.alloc (.cells #[.string ⟨#[45, 105, 103, 110, 111, 114, 101, 100]⟩, .string ⟨#[]⟩, .int .i64 0, .int .i64 0, .slice none 0 0] 35)).alloc (.cells #[.bool false, .bool deep, .int .i64 mn, .int .i64 mx, .int .i64 1000] 37)) (.cells #[.string ⟨#[]⟩, .slice none 0 0, .int .i64 0] 27)
    simpa using this
  have e3 : W0.heap[n0 + 3]? = some (.cells #[.int .i64 0] 28 (0, 0)) := by
    rw [← hW0, ← hn0]
    have := World.alloc_heap_new (((w.alloc (.cells #[.string ⟨#[45, 105, 103, 110, 111, 114, 101, 100]⟩, .string ⟨#[]⟩, .int .i64 0, .int .i64 0, .slice none 0 0] 35)).alloc (.cells #[.bool false, .bool deep, .int .i64 mn, .int .i64 mx, .int .i64 1000] 37)).alloc (.cells #[.string ⟨#[]⟩, .slice none 0 0, .int .i64 0] 27)) (.cells #[.int .i64 0] 28)
    simpa using this
  have o0 : W0.cell? ⟨n0 + 1, 0, none⟩ = some (.bool false) := by rw [Lib.cell_of_heap e1]; rfl
  have o1 : W0.cell? ⟨n0 + 1, 1, none⟩ = some (.bool deep) := by rw [Lib.cell_of_heap e1]; rfl
  have o2 : W0.cell? ⟨n0 + 1, 2, none⟩ = some (.int .i64 mn) := by rw [Lib.cell_of_heap e1]; rfl
  have o3 : W0.cell? ⟨n0 + 1, 3, none⟩ = some (.int .i64 mx) := by rw [Lib.cell_of_heap e1]; rfl
  have o4 : W0.cell? ⟨n0 + 1, 4, none⟩ = some (.int .i64 1000) := by rw [Lib.cell_of_heap e1]; rfl
  have HGS := hide (⟨hG, hS⟩ : _ ∧ _)
  clear hG hS
  have HIR := hide (inRange_any deep mn mx 1000 W0 h1 h2 (by decide) (by decide))
  have HW0 := hide hW0
  have HP := hide (⟨hz0, hb0, e0, e1, e2, e3, hrow, hgs⟩ : _ ∧ _ ∧ _ ∧ _ ∧ _ ∧ _ ∧ _ ∧ _)
  clear hW0 hz0 hb0 e0 e1 e2 e3 hrow hgs
  go_enter_defers Tryz.func8, Tryz.ntmps8
  go_wp2_with (rw [HW0.out])
  go_wp2_with fail
  refine HIR.out.mono ?_
  rintro e w1 ⟨rfl, hb1⟩
  obtain ⟨hz0, hb0, e0, e1, e2, e3, hrow, hgs⟩ := HP.out
  have f0 := (hb1.block n0 (by omega)).trans e0
  have f1 := (hb1.block (n0 + 1) (by omega)).trans e1
  clear o0 o1 o2 o3 o4
  have o0 : w1.cell? ⟨n0 + 1, 0, none⟩ = some (.bool false) := by rw [Lib.cell_of_heap f1]; rfl
  have o1 : w1.cell? ⟨n0 + 1, 1, none⟩ = some (.bool deep) := by rw [Lib.cell_of_heap f1]; rfl
  have o2 : w1.cell? ⟨n0 + 1, 2, none⟩ = some (.int .i64 mn) := by rw [Lib.cell_of_heap f1]; rfl
  have o3 : w1.cell? ⟨n0 + 1, 3, none⟩ = some (.int .i64 mx) := by rw [Lib.cell_of_heap f1]; rfl
  have o4 : w1.cell? ⟨n0 + 1, 4, none⟩ = some (.int .i64 1000) := by rw [Lib.cell_of_heap f1]; rfl
  have t0 : w1.cell? ⟨n0, 0, none⟩ = some (.string ⟨#[45, 105, 103, 110, 111, 114, 101, 100]⟩) := by rw [Lib.cell_of_heap f0]; rfl
  have t1 : w1.cell? ⟨n0, 1, none⟩ = some (.string ⟨#[]⟩) := by rw [Lib.cell_of_heap f0]; rfl
  have t2 : w1.cell? ⟨n0, 2, none⟩ = some (.int .i64 0) := by rw [Lib.cell_of_heap f0]; rfl
  have t3 : w1.cell? ⟨n0, 3, none⟩ = some (.int .i64 0) := by rw [Lib.cell_of_heap f0]; rfl
  have t4 : w1.cell? ⟨n0, 4, none⟩ = some (.slice none 0 0) := by rw [Lib.cell_of_heap f0]; rfl
  have hbw1 : Below w.heap.size w w1 := by rw [hn0]; exact hb0.trans (hb1.mono (by omega))
  have h14 : 14 ≤ w.heap.size := HGS.out.1.big
  have HNW := hide (newW_ign a6 a2 a4 w.heap.size g cap L L.length rfl deep mn mx 1000 (by have := hK.lim; omega) w1 (HGS.out.1.below hbw1) (HGS.out.2.below hbw1 h14) h14 (hrow.below hbw1) hbw1.size)
  clear hbw1
  have HB1 := hide hb1
  clear hz0 hb0 e0 e1 e2 e3 hrow hgs f0 f1 hb1
  go_wp2_with fail
  refine HNW.out.mono ?_
  rintro e w2 ⟨b, gm, ga, kb, kr, wb, eb, f, iv, rfl, hN, hkb, hkr, hpr, hJI, hmL, hb2⟩
  obtain ⟨hz0, hb0, e0, e1, e2, e3, hrow, hgs⟩ := HP.out
  have hb1 := HB1.out
  have s1 := hb1.size
  have s2 := hb2.size
  have hw1 : Below n0 w w1 := hb0.trans (hb1.mono (by omega))
  have hw2 : Below n0 w w2 := hw1.trans (hb2.mono (by omega))
  have hrow2 : NodeRow w1.heap.size w2 (.slice (some ⟨g, 0, none⟩) L.length cap) L := node_mono (hrow.below (by rw [hn0]; exact hw2)) (by rw [hn0]; omega)
  obtain ⟨W3, hW3⟩ : ∃ W3, w2.alloc (.cells #[.pointer (some ⟨b, 0, none⟩)] 63) = W3 := ⟨_, rfl⟩
  have hb3 : Below w2.heap.size w2 W3 := by rw [← hW3]; exact (Below.refl _ _).alloc (Nat.le_refl _) _
  have hx3 : W3.heap[w2.heap.size]? = some (.cells #[.pointer (some ⟨b, 0, none⟩)] 63 (0, 0)) := by rw [← hW3]; exact World.alloc_heap_new w2 _
  have hst := (init_st hN hrow2).below hb3
  have hj := jign_stab L _ f kr wb eb _ _ _ _ _ (init_ji (f := f) hN hkb hkr hpr hJI hmL) (TurnC.of_below hb3)
  have hE3 := hj.ji.hE
  have hSt := start_any (jign_asks L hTO ⟨b, ga, gm, g, cap, kb, w1.heap.size, deep, mn, mx, 1000, iv⟩ f kr wb eb (Int.le_refl _)) hK (fun k => k = f.m1 ∨ k = f.m2 ∨ k = f.m3) W3 ⟨hst, hj, by decide, by decide, by simpa using hvl, fun i _ hi => by rw [List.getElem?_replicate, if_pos hi]⟩
  have hgl : gs < n0 := by rw [← hn0]; exact (Array.getElem?_eq_some_iff.1 hgs).1
  have hg3 : W3.heap[gs]? = some (.cells #[.string ⟨#[47]⟩] 9 (0, 0)) := (hb3.block gs (by have := hw2.size; rw [hn0] at this; omega)).trans ((hw2.block gs hgl).trans hgs)
  have g3 : W3.cell? ⟨gs, 0, none⟩ = some (.string ⟨#[47]⟩) := one_cell hg3
  have x3 : W3.cell? ⟨w2.heap.size, 0, none⟩ = some (.pointer (some ⟨b, 0, none⟩)) := one_cell hx3
  have k2 : W3.heap[n0 + 2]? = some (.cells #[.string ⟨#[]⟩, .slice none 0 0, .int .i64 0] 27 (0, 0)) := (hb3.block _ (by omega)).trans ((hb2.block _ (by omega)).trans ((hb1.block _ (by omega)).trans e2))
  have k3 : W3.heap[n0 + 3]? = some (.cells #[.int .i64 0] 28 (0, 0)) := (hb3.block _ (by omega)).trans ((hb2.block _ (by omega)).trans ((hb1.block _ (by omega)).trans e3))
  have hw3 : Below n0 w W3 := hw2.trans (hb3.mono (by omega))
  have hc1 : n0 + 4 ≤ w1.heap.size := by omega
  have HW3 := hide hW3
  have HSt := hide hSt
  have HY := hide (⟨hst, hx3, k2, k3, hw3⟩ : _ ∧ _ ∧ _ ∧ _ ∧ _)
  have HJ := hide (⟨hj, hmL⟩ : _ ∧ _)
  clear hJI hmL hE3 hz0 hb0 e0 e1 e2 e3 hrow hgs hb1 hw1 hw2 hrow2 hW3 hb3 hx3 hst hj hSt hg3 k2 k3 hw3 hb2 hN hkb hkr hpr s1 s2 HIR HNW o0 o1 o2 o3 o4 t0 t1 t2 t3 t4
  go_wp2_with (rw [HW3.out])
  refine wp_loop_rounds 2 ?_
  rw [rounds_succ]
  go_wp2_with fail
  refine HSt.out.mono ?_
  rintro e w4 ⟨rfl, pv4, bv4, tv4, nn4, E4, h4, j4, T4, o4, m4⟩
  obtain ⟨hst, hx3, k2, k3, hw3⟩ := HY.out
  have nd3 : ∀ {k : Nat} {a : Array Value} {t : TypeId} {y : Nat × Nat}, W3.heap[k]? = some (.cells a t y) → t ≠ 91 → t ≠ 4 → w4.heap[k]? = some (.cells a t y) := by
    intro k a t y hk h1 h2
    refine (T4.block k (Array.getElem?_eq_some_iff.1 hk).1 ?_).trans hk
    rintro ((e | e | e | e) | e)
    · have e : k = b := e
      subst e
      exact ty_ne hk hst.blk h1
    · have e : k = ga := e
      subst e
      exact ty_ne hk hst.abv h2
    · cases e
    · cases e
    · exact HJ.out.1.nE hk e
  have x4 := one_cell (nd3 hx3 (by decide) (by decide))
  have k24 := nd3 k2 (by decide) (by decide)
  have k34 := nd3 k3 (by decide) (by decide)
  have hw4 : Below n0 w w4 := hw3.trans (turn_low T4 (fun k hk => by rcases hk with q | q; have := (hst.lts k q).1; show n0 ≤ k; have hB : w1.heap.size ≤ k := this; omega; have := HJ.out.2; rcases q with rfl | rfl | rfl <;> omega) (by have := hw3.size; rw [hn0] at this; exact this))
  obtain ⟨ta, tc, rfl⟩ : ∃ ta tc, tv4 = .slice ta nn4 tc := by
    obtain ⟨ts, hts⟩ := h4.nts
    rcases hts.2 with ⟨e, e2⟩ | ⟨g, cap, cur, e, _⟩
    · exact ⟨none, 0, by rw [e, e2]⟩
    · exact ⟨_, _, e⟩
  have hR := result_any w4 h4 (by have := o4; omega)
  have HR := hide hR
  have HZ := hide (⟨k24, k34, hw4⟩ : _ ∧ _ ∧ _)
  clear hst hx3 k2 k3 hw3 h4 j4 T4 o4 m4 nd3 k24 k34 hw4 hR HSt x3 g3
  go_wp2
  rw [rounds_succ]
  go_wp2_with fail
  refine HR.out.mono ?_
  rintro e w5 ⟨st, rfl, hb5⟩
  obtain ⟨k24, k34, hw4⟩ := HZ.out
  have k25 : w5.heap[n0 + 1 + 1]? = _ := (hb5.block (n0 + 2) (by show n0 + 2 < w1.heap.size; omega)).trans k24
  have k35 : w5.heap[n0 + 1 + 1 + 1]? = _ := (hb5.block (n0 + 3) (by show n0 + 3 < w1.heap.size; omega)).trans k34
  have z0 : w5.cell? ⟨n0 + 1 + 1, 0, none⟩ = some (.string ⟨#[]⟩) := by rw [Lib.cell_of_heap k25]; rfl
  have z1 : w5.cell? ⟨n0 + 1 + 1, 1, none⟩ = some (.slice none 0 0) := by rw [Lib.cell_of_heap k25]; rfl
  have z2 : w5.cell? ⟨n0 + 1 + 1, 2, none⟩ = some (.int .i64 0) := by rw [Lib.cell_of_heap k25]; rfl
  have z3 : w5.cell? ⟨n0 + 1 + 1 + 1, 0, none⟩ = some (.int .i64 0) := one_cell k35
  have y0 := Lib.frozen_of_heap k25 0
  have y1 := Lib.frozen_of_heap k25 1
  have y2 := Lib.frozen_of_heap k25 2
  have y3 := Lib.frozen_of_heap k35 0
  have HB5 : Hid (Below n0 w w5) := hw4.trans (hb5.mono (by show n0 ≤ w1.heap.size; omega))
  clear k24 k34 hw4 k25 k35 hb5 HR HZ
  go_wp2
  refine leaves_cons (f := 23) (args := #[.pointer (some ⟨w2.heap.size, 0, none⟩), .pointer (some ⟨n0 + 1 + 1, 0, none⟩), .pointer (some ⟨n0 + 1 + 1 + 1, 0, none⟩)]) (by simp) (by simp [go_sem]) ?_
  refine (wcatch_idle _ _ _ _).mono ?_
  rintro e u' w6 ⟨rfl, rfl, rfl⟩
  simp [Leaves, settle, results, Tryz.results8, go_sem, z0, z1, z2, z3]
  rw [hn0]
  exact (((HB5.out.setCell (p := ⟨n0 + 1 + 1, 0, none⟩) (by show n0 ≤ n0 + 1 + 1; omega) _).setCell (p := ⟨n0 + 1 + 1, 1, none⟩) (by show n0 ≤ n0 + 1 + 1; omega) _).setCell (p := ⟨n0 + 1 + 1, 2, none⟩) (by show n0 ≤ n0 + 1 + 1; omega) _).setCell (p := ⟨n0 + 1 + 1 + 1, 0, none⟩) (by show n0 ≤ n0 + 1 + 1 + 1; omega) _
end Go.Proofs.YtfemboojdablhaaGreatDoor.Tre
namespace Go.Proofs.YtfemboojdablhaaGreatDoor.Tre
open Go.RowKit Go.Shelf
theorem cut_done {s : ByteArray} {f : Nat} {done : List ByteArray} (h : CutSt 10 s s.size f done) : done = (cutS 10 s).dropLast := by
  have := cutSt_out (cutSt_end h) (by omega)
  rw [← this, List.dropLast_concat]
set_option maxRecDepth 100000 in
set_option maxHeartbeats 2000000 in
theorem lines_any (s x : ByteArray) (w : World) (hs : s.size ≤ 1073741824) :
    Calls Tryz.prog 11 #[.string s, .string x] w fun e w' => e = .returned (.int .i64 (linesD s x : Int)) ∧ w' = w := by
  go_enter Tryz.func11, Tryz.ntmps11
  go_wp2
  go_loopw [5, 6, 7] (fun nv fv iv wr => ∃ (k f : Nat) (done : List ByteArray), CutSt 10 s k f done ∧ k ≤ s.size ∧ iv = .int .i64 (k : Int) ∧ fv = .int .i64 (f : Int) ∧ nv = .int .i64 ((done.countP (fun p => p.toList == x.toList) : Nat) : Int) ∧ done.length ≤ k ∧ wr = w) (fun _ _ iv _ => s.size - (intOf iv).toNat)
  case atStart => exact ⟨0, 0, [], cutSt_zero 10 s, Nat.zero_le _, rfl, rfl, rfl, Nat.zero_le _, rfl⟩
  case round =>
    obtain ⟨k, f, done, hst, hk, rfl, rfl, rfl, hdl, rfl⟩ := hrel
    have hcp : done.countP (fun p => p.toList == x.toList) ≤ done.length := List.countP_le_length
    obtain ⟨q, hq⟩ : ∃ q, done.countP (fun p => p.toList == x.toList) = q := ⟨_, rfl⟩
    rw [hq] at hcp ⊢
    by_cases hlt : k < s.size
    · have hf := cutSt_from hst hk
      have hkI : (k : Int) < (s.size : Int) := by omega
      by_cases hc : s[k] = 10
      · have hbc : ((s[k].toNat : Int) == 10) = true := by rw [hc]; rfl
        have HST : Hid (CutSt 10 s (k + 1) (k + 1) (done ++ [s.extract f k])) := cutSt_hit hst hlt hc
        have HQ := hide hq
        cases hx : ((s.extract f k).toList == x.toList)
        · clear hst hc hq
          go_wp2
          go_roundw
          case rel => exact ⟨k + 1, k + 1, _, HST.out, by omega, by go_num, by go_num, by rw [List.countP_append, HQ.out]; simp [hx], by simp; omega, trivial⟩
          case measure => simp [intOf]; omega
        · clear hst hc hq
          go_wp2
          go_roundw
          case rel => exact ⟨k + 1, k + 1, _, HST.out, by omega, by go_num, by go_num, by rw [List.countP_append, HQ.out]; simp [hx], by simp; omega, trivial⟩
          case measure => simp [intOf]; omega
      · have hbc : ((s[k].toNat : Int) == 10) = false := by
          rw [beq_eq_false_iff_ne]; intro e; exact hc (UInt8.toNat_inj.1 (by have : (10 : UInt8).toNat = 10 := rfl; omega))
        have HST : Hid (CutSt 10 s (k + 1) f done) := cutSt_miss hst hlt hc
        have HQ := hide hq
        clear hst hc hq
        go_wp2
        go_roundw
        case rel => exact ⟨k + 1, f, done, HST.out, by omega, by go_num, rfl, by rw [HQ.out], by omega, trivial⟩
        case measure => simp [intOf]; omega
    · have hke : k = s.size := by omega
      subst hke
      have hd := cut_done hst
      have HD : Hid (q = linesD s x) := by unfold linesD; rw [← hd]; exact hq.symm
      clear hst hq hd
      go_wp2
      go_ret
      exact ⟨by rw [HD.out]; rfl, rfl⟩
end Go.Proofs.YtfemboojdablhaaGreatDoor.Tre
namespace Go.Proofs.YtfemboojdablhaaGreatDoor.Tre
open Go.RowKit Go.Shelf
structure PathL (L : List NodeD) (K : List ByteArray) : Prop where
  len : K.length = L.length
  key0 : K[0]? = some (bs [])
  node : ∀ (i : Nat) (n : NodeD), L[i]? = some n → 0 < i → ∃ (way : ByteArray) (a : Nat), K[i]? = some way ∧ (cutS 47 way).all nameOk = true ∧ n.name = lastS way ∧ n.up = (a : Int) ∧ a < i ∧ K[a]? = some (upS way)
def Climb (K : List ByteArray) (k0 k : Nat) (xs : List ByteArray) : Prop := ∃ w0 w, K[k0]? = some w0 ∧ K[k]? = some w ∧ namesL w0 = namesL w ++ xs.reverse.map (fun x => x.data.toList)
theorem climb_start {K : List ByteArray} {k : Nat} {w : ByteArray} (h : K[k]? = some w) : Climb K k k [] := ⟨w, w, h, h, by simp⟩
theorem climb_step {L : List NodeD} {K : List ByteArray} (hp : PathL L K) {k0 k a : Nat} {xs : List ByteArray} {n : NodeD} (h : Climb K k0 k xs) (hn : L[k]? = some n) (hk : 0 < k) (ha : n.up = (a : Int)) : Climb K k0 a (xs ++ [n.name]) ∧ a < k := by
  obtain ⟨w0, w, h0, h1, e⟩ := h
  obtain ⟨way, a', h2, h3, h4, h5, h6, h7⟩ := hp.node k n hn hk
  rw [h1] at h2
  cases h2
  have : a' = a := by omega
  subst this
  refine ⟨⟨w0, _, h0, h7, ?_⟩, h6⟩
  rw [e, names_parts h3, h4]
  simp
theorem climb_end {K : List ByteArray} {k0 : Nat} {xs : List ByteArray} {w0 : ByteArray} (h : Climb K k0 0 xs) (h0 : K[0]? = some (bs [])) (hw : K[k0]? = some w0) : namesL w0 = xs.reverse.map (fun x => x.data.toList) := by
  obtain ⟨w1, w, h1, h2, e⟩ := h
  rw [h0] at h2
  cases h2
  rw [hw] at h1
  cases h1
  rw [e]
  rfl
theorem way_joined {w : ByteArray} (h : (cutS 47 w).all nameOk = true) : joinL (namesL w) = w.data.toList := by
  rw [names_way h, join_split]
theorem nameOk_le {s : ByteArray} (h : nameOk s = true) : s.size ≤ 60 := by
  unfold nameOk at h
  simp only [Bool.and_eq_true, decide_eq_true_eq] at h
  exact h.1.1.1.2
theorem lastL_mem (l : List UInt8) : lastL (splitL 47 l) ∈ splitL 47 l := by
  rcases snoc_cases (splitL 47 l) with e | ⟨m, x, e⟩
  · exact absurd e (split_ne _ _)
  · rw [e]; simp [lastL]
theorem last_mem (way : ByteArray) : lastS way ∈ cutS 47 way := List.mem_map.2 ⟨_, lastL_mem _, rfl⟩
theorem join_len : ∀ (ps : List (List UInt8)), (∀ p ∈ ps, p.length ≤ 60) → (joinL ps).length ≤ 61 * ps.length := by
  intro ps
  induction ps with
  | nil => intro _; simp [joinL]
  | cons p r ih =>
    intro h
    have h1 := h p (by simp)
    have h2 := ih (fun x hx => h x (by simp [hx]))
    cases r with
    | nil => simp [joinL]; omega
    | cons q qs => simp only [joinL, List.length_append, List.length_cons] at h2 ⊢; omega
theorem joinL_cons {p : List UInt8} {r : List (List UInt8)} (h : r ≠ []) : joinL (p :: r) = p ++ 47 :: joinL r := by
  cases r with
  | nil => exact absurd rfl h
  | cons q qs => rfl
def gath (xs : List ByteArray) : ByteArray := bs (joinL (xs.reverse.map (fun x => x.data.toList)))
theorem gath_next {xs : List ByteArray} (h : xs ≠ []) (x : ByteArray) : gath (xs ++ [x]) = x ++ bs [47] ++ gath xs := by
  unfold gath
  rw [List.reverse_append, List.reverse_singleton, List.singleton_append, List.map_cons, joinL_cons (by simp [h])]
  have : x = bs x.data.toList := rfl
  conv => rhs; rw [this, bs_app, bs_app]
  simp
def NamesOk (xs : List ByteArray) : Prop := ∀ x ∈ xs, x.data.toList ≠ [] ∧ x.size ≤ 60
theorem gath_size {xs : List ByteArray} (h : NamesOk xs) : (gath xs).size ≤ 61 * xs.length := by
  rw [← len_data]
  show (joinL _).length ≤ _
  refine Nat.le_trans (join_len _ (fun p hp => ?_)) (by simp)
  simp only [List.mem_map, List.mem_reverse] at hp
  obtain ⟨x, hx, rfl⟩ := hp
  rw [len_data]
  exact (h x hx).2
theorem gath_emp {xs : List ByteArray} (h : NamesOk xs) : (gath xs).toList.isEmpty = xs.isEmpty := by
  rw [ByteArray.toList_eq]
  cases e : xs with
  | nil => rfl
  | cons y ys =>
    have hne : xs.reverse.map (fun x => x.data.toList) ≠ [] := by rw [e]; simp
    have : joinL (xs.reverse.map (fun x => x.data.toList)) ≠ [] := by
      cases e2 : xs.reverse.map (fun x => x.data.toList) with
      | nil => exact absurd e2 hne
      | cons p r =>
        have hp : p ≠ [] := by
          have : p ∈ xs.reverse.map (fun x => x.data.toList) := by rw [e2]; simp
          simp only [List.mem_map, List.mem_reverse] at this
          obtain ⟨x, hx, rfl⟩ := this
          exact (h x hx).1
        cases r with
        | nil => exact hp
        | cons q qs => intro hh; rw [joinL_cons (by simp)] at hh; simp at hh
    rw [← e]
    show List.isEmpty (gath xs).data.toList = _
    unfold gath
    rw [data_bs]
    cases e3 : joinL (xs.reverse.map (fun x => x.data.toList)) with
    | nil => exact absurd e3 this
    | cons _ _ => rw [e]; rfl
theorem node_name {L : List NodeD} {K : List ByteArray} (hp : PathL L K) {k : Nat} {n : NodeD} (hn : L[k]? = some n) (hk : 0 < k) : n.name.data.toList ≠ [] ∧ n.name.size ≤ 60 := by
  obtain ⟨way, a, h1, h2, h3, _⟩ := hp.node k n hn hk
  have := List.all_eq_true.1 h2 _ (last_mem way)
  rw [h3]
  exact ⟨nameOk_ne this, nameOk_le this⟩
set_option maxRecDepth 100000 in
set_option maxHeartbeats 4000000 in
theorem refway_any (C : Nat) (v : Value) (L : List NodeD) (K : List ByteArray) (k : Nat) (way : ByteArray) (w : World) (hp : PathL L K) (hL : L.length ≤ 201) (h0 : 0 < k) (hk : k < L.length) (hw : K[k]? = some way) (hrow : NodeRow C w v L) :
    Calls Tryz.prog 12 #[v, .int .i64 (k : Int)] w fun e w' => e = .returned (.string way) ∧ w' = w := by
  obtain ⟨n0, hn0⟩ : ∃ n, L[k]? = some n := ⟨_, List.getElem?_eq_getElem hk⟩
  obtain ⟨a, cap, rfl⟩ := hrow.form
  obtain ⟨g, rfl⟩ : ∃ g, a = some ⟨g, 0, none⟩ := by
    obtain ⟨g, _, _, _, rfl, _⟩ := hrow.at hn0
    exact ⟨g, rfl⟩
  have hok : (cutS 47 way).all nameOk = true := by
    obtain ⟨wy, _, hwy, hok, _⟩ := hp.node k n0 hn0 h0
    rw [hw] at hwy
    cases hwy
    exact hok
  have HROW := hide hrow
  have HP := hide hp
  have HW := hide hw
  have HOK := hide hok
  clear hrow hp hw hok hn0
  go_enter Tryz.func12, Tryz.ntmps12
  go_wp2
  go_loop [1, 5, 6] (fun kv ov nv => ∃ (j n : Nat) (xs : List ByteArray), j ≤ k ∧ kv = .int .i64 j ∧ nv = .int .i64 n ∧ ov = .string (gath xs) ∧ Climb K k j xs ∧ xs.length = n ∧ n + j ≤ k ∧ NamesOk xs) (fun kv _ _ => (intOf kv).toNat)
  case atStart => exact ⟨k, 0, [], Nat.le_refl _, rfl, rfl, rfl, climb_start HW.out, rfl, by omega, fun x hx => by cases hx⟩
  case round =>
    obtain ⟨j, n, xs, hj, rfl, rfl, rfl, hcl, hxl, hnj, hok⟩ := hrel
    have hgs := gath_size hok
    have hge := gath_emp hok
    by_cases hj0 : 0 < j
    · obtain ⟨m, hm⟩ : ∃ n, L[j]? = some n := ⟨_, List.getElem?_eq_getElem (by omega)⟩
      obtain ⟨b, hub⟩ : ∃ b : Nat, m.up = (b : Int) := by
        obtain ⟨_, b, _, _, _, hub, _⟩ := HP.out.node j m hm hj0
        exact ⟨b, hub⟩
      obtain ⟨hcl2, hbj⟩ := climb_step HP.out hcl hm hj0 hub
      have hnm := node_name HP.out hm hj0
      obtain ⟨g', ka, km, kc, e, hg', _, ⟨p0, p1, p2, p3, p4, p5, p6⟩, _⟩ := HROW.out.at hm
      cases e
      rw [hub] at p2
      have HCL := hide hcl2
      have HNO : Hid (NamesOk (xs ++ [m.name])) := by
        intro x hx
        rw [List.mem_append] at hx
        rcases hx with hx | hx
        · exact hok x hx
        · simp only [List.mem_singleton] at hx; subst hx; exact hnm
      have hns := hnm.2
      have hjI : (j : Int) < (L.length : Int) := by omega
      have hnI : (n : Int) ≤ (L.length : Int) := by omega
      have hj1 : (0 : Int) < (j : Int) := by omega
      cases hx : xs.isEmpty
      · have hne : xs ≠ [] := fun e => by rw [e] at hx; cases hx
        have HG : Hid (gath (xs ++ [m.name]) = m.name ++ bs [47] ++ gath xs) := gath_next hne _
        rw [hx] at hge
        have HE := hide hge
        obtain ⟨gg, hgg⟩ : ∃ gg, gath xs = gg := ⟨_, rfl⟩
        rw [hgg] at hge hgs HG ⊢
        clear hcl hcl2 hm hub hnm hx hne hok hgg HE
        go_wp2
        go_round
        case rel => exact ⟨b, n + 1, xs ++ [m.name], by omega, rfl, by go_num, by rw [HG.out]; rfl, HCL.out, by simp; omega, by omega, HNO.out⟩
        case measure => simp [intOf]; omega
      · have hne : xs = [] := List.isEmpty_iff.1 hx
        subst hne
        have HG : Hid (gath ([] ++ [m.name]) = m.name) := rfl
        clear hcl hcl2 hm hub hnm hx hok
        go_wp2
        go_round
        case rel => exact ⟨b, n + 1, [] ++ [m.name], by omega, rfl, by go_num, by rw [HG.out], HCL.out, by rw [← hxl]; rfl, by omega, HNO.out⟩
        case measure => simp [intOf]; omega
    · obtain rfl : j = 0 := by omega
      have HEND := hide (climb_end hcl HP.out.key0 HW.out)
      have HS : Hid (gath xs = way) := by
        unfold Hid gath
        rw [← HEND.out, way_joined HOK.out]
        rfl
      have hnI : (n : Int) ≤ (L.length : Int) := by omega
      clear hcl hok hge
      go_wp2
      go_ret
      exact ⟨ret_str HS.out, rfl⟩
theorem path_k {L : List NodeD} {K : List ByteArray} (h : KInv L K) : PathL L K := ⟨h.len, h.key0, h.node⟩
end Go.Proofs.YtfemboojdablhaaGreatDoor.Tre
namespace Go.Proofs.YtfemboojdablhaaGreatDoor.Tre
open Go.RowKit
set_option maxRecDepth 100000 in
set_option maxHeartbeats 2000000 in
theorem nodes_any (C : Nat) (v : Value) (L : List NodeD) (w : World) (hl : L.length ≤ 201) (hk : ∀ (i : Nat) (n : NodeD), L[i]? = some n → n.kids.length ≤ 1000) (hv : NodeRow C w v L) (hC : C ≤ w.heap.size)  :
    Calls Tryz.prog 9 #[v] w fun e w' => ∃ v' l, e = .returned v' ∧ Owned 68 w.heap.size w' v' l ∧ l.map (·.1) = L ∧ Below w.heap.size w w' := by
  obtain ⟨i0, hi, hz0, hz1, hz2⟩ := info_parts Tryz.info68
  obtain ⟨a, ca, rfl⟩ := hv.form
  have HV := hide hv
  have HK := hide hk
  clear hv hk
  go_enter Tryz.func9, Tryz.ntmps9
  go_wp2
  go_loopw [3, 4] (fun mv iv wr => ∃ (k : Nat) (l : List (NodeD × Value)), k ≤ L.length ∧ iv = .int .i64 k ∧ l.length = k ∧ l.map (·.1) = L.take k ∧ Owned 68 w.heap.size wr mv l ∧ Below w.heap.size w wr) (fun _ iv _ => L.length - (intOf iv).toNat)
  case atStart => exact ⟨0, [], Nat.zero_le _, rfl, rfl, by simp, ⟨World.ownsRow_nil _ _ _ _, fun p hp => by simp at hp⟩, Below.refl _ _⟩
  case round =>
    obtain ⟨k, l, hk, rfl, hlk, hmap, hown, hbl⟩ := hrel
    by_cases hlt : k < L.length
    · obtain ⟨x, hx⟩ : ∃ x, L[k]? = some x := ⟨_, List.getElem?_eq_getElem hlt⟩
      have hkx := unhide HK k x hx
      obtain ⟨ga, ka, km, kc, rfl, hga, hca, ⟨p0, p1, p2, p3, p4, p5, p6⟩, hra⟩ := ((unhide HV).below (hbl.mono hC)).at hx
      have HA := hide hra
      have HX := hide hx
      have HMAP := hide hmap
      have HO := hide hown
      have hsz := hbl.size
      clear hra hx hmap hown
      go_wp2_with (at_builtin; refine wpList_append_ints rfl (.tmp 12) (.tmp 17) rfl wr.heap.size C _ _ [] x.kids rfl (World.ownsRow_nil _ _ _ _) rfl (unhide HA) (by simp; omega) (Nat.le_refl _) ?_; intro v1 w1 hown1 hg1; simp only [List.nil_append] at hown1; have hb1 : Below wr.heap.size wr w1 := (Below.refl _ _).grown hg1 (Nat.le_refl _) (fun k e => by cases e); have hz1' := hb1.size)
      clear hg1
      have hgw : ga < wr.heap.size := by omega
      have c0 := (hb1.cell (p := ⟨ga, k * 7, none⟩) hgw).trans p0
      have c1 := (hb1.cell (p := ⟨ga, k * 7 + 1, none⟩) hgw).trans p1
      have c2 := (hb1.cell (p := ⟨ga, k * 7 + 2, none⟩) hgw).trans p2
      have c3 := (hb1.cell (p := ⟨ga, k * 7 + 3, none⟩) hgw).trans p3
      have c4 := (hb1.cell (p := ⟨ga, k * 7 + 4, none⟩) hgw).trans p4
      have c5 := (hb1.cell (p := ⟨ga, k * 7 + 5, none⟩) hgw).trans p5
      clear p0 p1 p2 p3 p4 p5 p6
      obtain ⟨k1, kc1, rfl, _⟩ := (IntRow.of_owns hown1).form
      have HO1 := hide ((unhide HO).below hb1)
      have HKI := hide hown1
      clear hown1 HO HA
      have hkl : (k : Int) < (L.length : Int) := by omega
      have hne : some ga ≠ u3.ownBlock := fun e => by have := ((unhide HO1).1.lt ga e.symm).1; omega
      have HFAR : Hid (∀ (o : Obj) (w2 : World) (j : Nat) (z : Value), (w1.alloc o).drew.grownBy w2 u3.ownBlock → w1.cell? ⟨ga, j, none⟩ = some z → w2.cell? ⟨ga, j, none⟩ = some z) := by
        intro o w2 j z hg hz
        have h1 : ((w1.alloc o).drew).cell? ⟨ga, j, none⟩ = some z := ((Below.refl w1.heap.size w1).alloc (Nat.le_refl _) o |>.cell (p := ⟨ga, j, none⟩) (by show ga < _; omega)).trans hz
        exact (hg.cell_far ⟨ga, j, none⟩ (by show ga < ((w1.alloc o)).heap.size; simp; omega) hne).trans h1
      have HW : Hid (∀ (o : Obj), (w1.alloc o).drew.ownsRow w.heap.size 68 7 u3 l.length (cellsL l)) := fun o => (unhide HO1).1.alloc o
      have HN : Hid (∀ (j : Nat) (u : Value), [Value.int .u8 x.kind, .string x.name, .int .i64 x.up, .int .i64 x.size, .int .i64 x.time, .string x.text, .slice k1 x.kids.length kc1][j]? = some u → ((w1.alloc (.cells #[.int .u8 x.kind, .string x.name, .int .i64 x.up, .int .i64 x.size, .int .i64 x.time, .string x.text, .slice k1 x.kids.length kc1] 68)).drew).cell? ((⟨w1.heap.size, 0, none⟩ : Addr).add j) = some u) := World.news_of_block (cs := #[.int .u8 x.kind, .string x.name, .int .i64 x.up, .int .i64 x.size, .int .i64 x.time, .string x.text, .slice k1 x.kids.length kc1]) (World.alloc_heap_new w1 _)
      have hwz : w.heap.size ≤ w1.heap.size := by omega
      clear hne
      go_region_held_law (fun w' => w'.cell? ⟨ga, k * 7, none⟩ = some (.int .u8 x.kind) ∧ w'.cell? ⟨ga, k * 7 + 1, none⟩ = some (.string x.name) ∧ w'.cell? ⟨ga, k * 7 + 2, none⟩ = some (.int .i64 x.up) ∧ w'.cell? ⟨ga, k * 7 + 3, none⟩ = some (.int .i64 x.size) ∧ w'.cell? ⟨ga, k * 7 + 4, none⟩ = some (.int .i64 x.time) ∧ w'.cell? ⟨ga, k * 7 + 5, none⟩ = some (.string x.text)) (go_keep) ((refine step_append_lies _ rfl (.tmp 19) (.tmp 52) 31 rfl w.heap.size 68 i0 _ 7 88 Tryz.underlying31 hi hz0 hz1 hz2 rfl (by decide) u3 l.length (cellsL l) rfl (unhide HW _) ⟨w1.heap.size, 0, none⟩ 1 1 [Value.int .u8 x.kind, .string x.name, .int .i64 x.up, .int .i64 x.size, .int .i64 x.time, .string x.text, .slice k1 x.kids.length kc1] rfl rfl (unhide HN) (by simp [Value.oneCell']) (by decide) (by unfold maxLen; omega) (by omega) (by show _ ≤ (w1.alloc _).heap.size; simp; omega) _ rfl ?_; intro g cap w2 hown2 hg2 hat2 hlt2; have e0 := unhide HFAR _ _ _ _ hg2 c0; have e1 := unhide HFAR _ _ _ _ hg2 c1; have e2 := unhide HFAR _ _ _ _ hg2 c2; have e3 := unhide HFAR _ _ _ _ hg2 c3; have e4 := unhide HFAR _ _ _ _ hg2 c4; have e5 := unhide HFAR _ _ _ _ hg2 c5))
      go_wp2
      have hbA : Below w.heap.size w ((w1.alloc (.cells #[.int .u8 x.kind, .string x.name, .int .i64 x.up, .int .i64 x.size, .int .i64 x.time, .string x.text, .slice k1 x.kids.length kc1] 68)).drew) := Go.below_drewN ((hbl.trans (hb1.mono hsz)).alloc hwz _) 1
      have hbB : Below w.heap.size w w2 := hbA.grown hg2 hbA.size (fun j e => ((unhide HO1).1.lt j e).1)
      have kept : ∀ (B : Nat) (kv : Value) (ks : List Nat), w1.ownsRow B 3 1 kv ks.length (ints ks) → w2.ownsRow B 3 1 kv ks.length (ints ks) := fun B kv ks h => own_keep (W := (w1.alloc (.cells #[.int .u8 x.kind, .string x.name, .int .i64 x.up, .int .i64 x.size, .int .i64 x.time, .string x.text, .slice k1 x.kids.length kc1] 68)).drew) (show World.ownsRow _ _ _ _ _ _ _ from h.alloc _) (unhide HW _) (by decide) hg2
      have hmapx : (l ++ [(x, Value.slice k1 x.kids.length kc1)]).map (·.1) = L.take (k + 1) := by
        rw [List.map_append, unhide HMAP, List.take_succ_eq_append_getElem hlt, (List.getElem?_eq_some_iff.1 (unhide HX)).2]; rfl
      go_roundw
      case rel =>
        refine ⟨k + 1, l ++ [(x, .slice k1 x.kids.length kc1)], by omega, by go_num, by simp [hlk], hmapx, ⟨?_, ?_⟩, hbB⟩
        · rw [cellsL_snoc, List.length_append, hlk]
          rw [hlk] at hown2
          exact hown2
        · intro p hp
          rw [List.mem_append] at hp
          rcases hp with hp | hp
          · exact kept _ _ _ ((unhide HO1).2 p hp)
          · simp only [List.mem_singleton] at hp
            subst hp
            exact kept _ _ _ (owns_base' hsz (unhide HKI))
      case measure => simp [intOf]; omega
    · obtain rfl : k = L.length := by omega
      go_wp2
      go_ret
      exact ⟨_, l, rfl, hown, by rw [hmap, List.take_length], hbl⟩
end Go.Proofs.YtfemboojdablhaaGreatDoor.Tre
namespace Go.Proofs.YtfemboojdablhaaGreatDoor.Tre
open Go.RowKit Go.Shelf
theorem outW_all {mx : Int} {l : List Vis} (h : ∀ v ∈ l, mx ≤ v.depth) : outW mx (fun _ => true) l = outL l := by
  unfold outW
  have e : l.filter (selV mx (fun _ => true)) = l := List.filter_eq_self.2 (fun v hv => by unfold selV; rw [Bool.and_true]; exact decide_eq_true (h v hv))
  rw [e]
theorem way_len {L : List NodeD} {K : List ByteArray} (h : KInv L K) {k : Nat} (hk : k < L.length) : (wayB K k).data.toList.length ≤ 12300 := by
  obtain ⟨w, hw⟩ : ∃ a, K[k]? = some a := ⟨_, List.getElem?_eq_getElem (by rw [h.len]; exact hk)⟩
  have hd := dep_le h k hk
  have hl := h.lim
  unfold depK at hd
  unfold wayB
  rw [hw] at hd ⊢
  simp only [] at hd ⊢
  rw [data_bs, List.length_cons]
  rcases h.up_key hw with he | hok
  · rw [he]; simp
  · have := join_len (namesL w) (fun p hp => by
      rw [names_way hok] at hp
      have := nameOk_le (List.all_eq_true.1 hok (bs p) (List.mem_map.2 ⟨p, hp, rfl⟩))
      rw [← len_data, data_bs] at this
      exact this)
    rw [way_names hok] at this
    omega
theorem outL_len {l : List Vis} {b : Nat} (h : ∀ v ∈ l, v.path.data.toList.length ≤ b) : (outL l).length ≤ (b + 1) * l.length := by
  induction l with
  | nil => simp [outL]
  | cons v r ih =>
    have h1 := h v (by simp)
    have h2 := ih (fun q hq => h q (by simp [hq]))
    rw [show outL (v :: r) = (v.path.data.toList ++ [10]) ++ outL r from List.flatMap_cons, List.length_append, List.length_append, show (v :: r).length = r.length + 1 from rfl, Nat.mul_add, Nat.mul_one, show [(10 : UInt8)].length = 1 from rfl]
    omega
structure VisR (L : List NodeD) (K : List ByteArray) (l : List Vis) : Prop where
  at_ : ∀ v ∈ l, v.path = wayB K v.node ∧ v.depth = depK K v.node ∧ v.node < L.length
theorem vis_r {L : List NodeD} {K : List ByteArray} (h : KInv L K) (deep : Bool) (mx : Int) (f : Nat) : VisR L K (visG L deep mx f 0 ⟨#[47]⟩ 0) := by
  refine ⟨fun v hv => ?_⟩
  have hv' : v ∈ visG L deep mx f 0 (wayB K 0) (depK K 0) := by
    unfold wayB depK
    rw [h.key0]
    simp only []
    rw [names_nil rfl]
    exact hv
  obtain ⟨a, b, _, d⟩ := vis_way h f 0 v hv'
  exact ⟨a, b, d⟩
theorem way0 {L : List NodeD} {K : List ByteArray} (h : KInv L K) : wayB K 0 = ⟨#[47]⟩ ∧ depK K 0 = 0 := by
  unfold wayB depK
  rw [h.key0]
  simp only []
  rw [names_nil rfl]
  exact ⟨rfl, rfl⟩
theorem out_len {L : List NodeD} {K : List ByteArray} (h : KInv L K) {l : List Vis} (hl : VisR L K l) : (outL l).length ≤ 12301 * l.length :=
  outL_len (fun v hv => by obtain ⟨e, _, hn⟩ := hl.at_ v hv; rw [e]; exact way_len h hn)
theorem dep_mx {L : List NodeD} {K : List ByteArray} (h : KInv L K) : ∀ k, k < L.length → depK K k < 1000 := fun k hk => by
  have := dep_le h k hk
  have := h.lim
  omega
def opn (L : List NodeD) (k : Nat) : Nat := openD L k k
theorem once_r {L : List NodeD} {K : List ByteArray} (h : KInv L K) (deep : Bool) :
    let l := visG L deep 1000 (L.length + 1) 0 ⟨#[47]⟩ 0
    linesD (outS l) ⟨#[47]⟩ = 1 ∧ (∀ k, k < L.length → linesD (outS l) (wayB K k) = opn L k) ∧ tensD (outS l) = ((List.range L.length).map (opn L)).sum ∧ tensD (outS l) ≤ L.length ∧ l.length ≤ L.length ∧ VisR L K l := by
  intro l
  have e := way0 h
  have ho := once_plain h deep 1000 (dep_mx h) (L.length + 1) (by omega)
  rw [e.1, e.2] at ho
  have hr := vis_r h deep 1000 (L.length + 1)
  have ht : tensD (outS l) = l.length := tens_vis h (fun v hv => ⟨(hr.at_ v hv).1, (hr.at_ v hv).2.2⟩)
  refine ⟨ho.1, fun k hk => ho.2.1 k hk k (Nat.le_refl _), ho.2.2.1, ho.2.2.2, ?_, hr⟩
  rw [← ht]
  exact ho.2.2.2
theorem openD_le (L : List NodeD) : ∀ g k, openD L g k ≤ 1 := by
  intro g
  induction g with
  | zero => intro k; exact Nat.le_refl _
  | succ g ih =>
    intro k
    unfold openD
    split
    · exact Nat.le_refl _
    · split
      · exact Nat.le_refl _
      · rename_i m _ _
        have h1 : opD L m.up.toNat ≤ 1 := by unfold opD; split <;> (try split) <;> omega
        exact Nat.le_trans (Nat.mul_le_mul h1 (ih _)) (Nat.le_refl _)
end Go.Proofs.YtfemboojdablhaaGreatDoor.Tre
