/- Walk: the walker is made. -/
import Derived.Test.YtfemboojdablhaaGreatDoorWkN
import Derived.Deep.Cut
namespace Go.Proofs.YtfemboojdablhaaGreatDoor.Tre
open Go.RowKit Go.Shelf

abbrev optV (deep : Bool) (mn mx ms : Int) : Value := .agg #[.bool false, .bool deep, .int .i64 mn, .int .i64 mx, .int .i64 ms]
/-- The walker, as far as it is made. -/
structure NewW (n0 g n cap : Nat) (deep : Bool) (mn mx ms : Int) (wv iv : Value) (b gm ga : Nat) (W : World) : Prop where
  blk : WkO W b (.slice (some ⟨g, 0, none⟩) n cap) deep mn mx ms wv iv (.slice (some ⟨gm, 0, none⟩) n n) (.slice (some ⟨ga, 0, none⟩) n n) 0 (.pointer none) (.slice none 0 0) (.slice none 0 0)
  mea : W.heap[gm]? = some (.cells (meaL n).toArray 3 (0, 0))
  abv : W.heap[ga]? = some (.cells (Array.replicate n (Value.bool false)) 4 (0, 0))
  lb : n0 ≤ b
  lm : n0 ≤ gm
  la : n0 ≤ ga
theorem NewW.below {n0 g n cap : Nat} {deep : Bool} {mn mx ms : Int} {wv iv : Value} {b gm ga : Nat} {W W' : World} (h : NewW n0 g n cap deep mn mx ms wv iv b gm ga W) (hb : Below W.heap.size W W') : NewW n0 g n cap deep mn mx ms wv iv b gm ga W' :=
  ⟨(hb.block b h.blk.lt).trans h.blk, (hb.block gm (Array.getElem?_eq_some_iff.1 h.mea).1).trans h.mea, (hb.block ga (Array.getElem?_eq_some_iff.1 h.abv).1).trans h.abv, h.lb, h.lm, h.la⟩
theorem NewW.set {n0 g n cap : Nat} {deep : Bool} {mn mx ms : Int} {wv iv wv' iv' : Value} {b gm ga i : Nat} {v : Value} {W : World} (h : NewW n0 g n cap deep mn mx ms wv iv b gm ga W) (hs : WkO (W.setCell ⟨b, i, none⟩ v) b (.slice (some ⟨g, 0, none⟩) n cap) deep mn mx ms wv' iv' (.slice (some ⟨gm, 0, none⟩) n n) (.slice (some ⟨ga, 0, none⟩) n n) 0 (.pointer none) (.slice none 0 0) (.slice none 0 0)) : NewW n0 g n cap deep mn mx ms wv' iv' b gm ga (W.setCell ⟨b, i, none⟩ v) :=
  ⟨hs, (wset_other (fun e => ty_ne (e ▸ h.mea) h.blk (by decide))).trans h.mea, (wset_other (fun e => ty_ne (e ▸ h.abv) h.blk (by decide))).trans h.abv, h.lb, h.lm, h.la⟩

theorem print2_any (b : Nat) (w : World) : Calls Tryz.prog 41 #[.pointer (some ⟨b, 0, none⟩), .int .u8 10] w fun e w' => ∃ wb eb, e = .returned (.func (.func 70) #[] #[.pointer (some ⟨wb, 0, none⟩), .pointer (some ⟨eb, 0, none⟩)]) ∧ PrB w' b wb eb ∧ Below w.heap.size w w' := by
  refine (print_any b w).mono ?_
  rintro e w' ⟨rfl, rfl⟩
  refine ⟨_, _, rfl, ⟨?_, ?_⟩, ((Below.refl _ _).alloc (Nat.le_refl _) _).alloc (by simp) _⟩
  · rw [Below.heap_alloc _ _ _ (by simp)]; exact World.alloc_heap_new w _
  · have := World.alloc_heap_new (w.alloc (.cells #[.pointer (some ⟨b, 0, none⟩)] 63)) (.cells #[.int .u8 10] 5)
    simpa using this
theorem allOf2_any (kv : Value) (w : World) (hk : ∃ g m cc, kv = .slice (some ⟨g, 0, none⟩) m cc) : Calls Tryz.prog 40 #[kv] w fun e w' => ∃ kb, e = .returned (.func (.func 69) #[] #[.pointer (some ⟨kb, 0, none⟩)]) ∧ w'.heap[kb]? = some (.cells #[kv] 97 (0, 0)) ∧ Below w.heap.size w w' := by
  refine (allOf_any kv w hk).mono ?_
  rintro e w' ⟨rfl, rfl⟩
  exact ⟨_, rfl, World.alloc_heap_new w _, (Below.refl _ _).alloc (Nat.le_refl _) _⟩
set_option maxRecDepth 100000 in
set_option maxHeartbeats 4000000 in
theorem newW_any (g cap n : Nat) (deep : Bool) (mn mx ms : Int) (hn : n ≤ 1000) (w : World) :
    Calls Tryz.prog 22 #[.slice (some ⟨g, 0, none⟩) n cap, trueV, optV deep mn mx ms] w fun e w' => ∃ (b gm ga kb kr wb eb : Nat) (iv : Value), e = .returned (.pointer (some ⟨b, 0, none⟩)) ∧
      NewW w.heap.size g n cap deep mn mx ms (.func (.func 69) #[] #[.pointer (some ⟨kb, 0, none⟩)]) iv b gm ga w' ∧ w'.heap[kb]? = some (.cells #[.slice (some ⟨kr, 0, none⟩) 2 2] 97 (0, 0)) ∧ w'.heap[kr]? = some (.cells #[.func (.func 95) #[] #[], .func (.func 70) #[] #[.pointer (some ⟨wb, 0, none⟩), .pointer (some ⟨eb, 0, none⟩)]] 85 (0, 0)) ∧ PrB w' b wb eb ∧ Below w.heap.size w w' := by
  obtain ⟨n0, hn0⟩ : ∃ n0, w.heap.size = n0 := ⟨_, rfl⟩
  obtain ⟨W0, hW0⟩ : ∃ W0, (w.alloc (.cells #[.string ⟨#[45, 116, 114, 117, 101]⟩, .string ⟨#[]⟩, .int .i64 0, .int .i64 0, .slice none 0 0] 35)).alloc (.cells #[.bool false, .bool deep, .int .i64 mn, .int .i64 mx, .int .i64 ms] 37) = W0 := ⟨_, rfl⟩
  have hb0 : Below w.heap.size w W0 := by rw [← hW0]; exact ((Below.refl _ _).alloc (Nat.le_refl _) _).alloc (by simp) _
  have hz0 : W0.heap.size = n0 + 2 := by rw [← hW0, ← hn0]; simp
  have ht0 : W0.heap[n0]? = some (.cells #[.string ⟨#[45, 116, 114, 117, 101]⟩, .string ⟨#[]⟩, .int .i64 0, .int .i64 0, .slice none 0 0] 35 (0, 0)) := by
    rw [← hW0, ← hn0, Below.heap_alloc _ _ _ (by simp)]; exact World.alloc_heap_new w _
  have ho0 : W0.heap[n0 + 1]? = some (.cells #[.bool false, .bool deep, .int .i64 mn, .int .i64 mx, .int .i64 ms] 37 (0, 0)) := by
    rw [← hW0, ← hn0]
    have := World.alloc_heap_new (w.alloc (.cells #[.string ⟨#[45, 116, 114, 117, 101]⟩, .string ⟨#[]⟩, .int .i64 0, .int .i64 0, .slice none 0 0] 35)) (.cells #[.bool false, .bool deep, .int .i64 mn, .int .i64 mx, .int .i64 ms] 37)
    simpa using this
  have o0 : W0.cell? ⟨n0 + 1, 0, none⟩ = some (.bool false) := by rw [Lib.cell_of_heap ho0]; rfl
  have o1 : W0.cell? ⟨n0 + 1, 1, none⟩ = some (.bool deep) := by rw [Lib.cell_of_heap ho0]; rfl
  have o2 : W0.cell? ⟨n0 + 1, 2, none⟩ = some (.int .i64 mn) := by rw [Lib.cell_of_heap ho0]; rfl
  have o3 : W0.cell? ⟨n0 + 1, 3, none⟩ = some (.int .i64 mx) := by rw [Lib.cell_of_heap ho0]; rfl
  have o4 : W0.cell? ⟨n0 + 1, 4, none⟩ = some (.int .i64 ms) := by rw [Lib.cell_of_heap ho0]; rfl
  have HMK := hide (make_bools n hn)
  have HW0 := hide hW0
  have HP := hide (⟨hb0, hz0, ht0, ho0⟩ : _ ∧ _ ∧ _ ∧ _)
  have hmk := make_bools n hn
  clear hb0 hz0 ht0 ho0 hW0
  go_enter Tryz.func22, Tryz.ntmps22
  go_upto_region 1 with (rw [HW0.out])
  go_cut [7] from 8 (fun v wx => ∃ b gm ga, v = .pointer (some ⟨b, 0, none⟩) ∧ NewW n0 g n cap deep mn mx ms .nilFunc .nilFunc b gm ga wx ∧ Below W0.heap.size W0 wx)
  case first =>
    have z0 : n0 + 2 ≤ W0.heap.size := by have := HP.out.2.1; omega
    have HC : Hid (∀ X, Below W0.heap.size W0 X → n0 + 2 ≤ X.heap.size ∧ X.cell? ⟨n0 + 1, 0, none⟩ = some (.bool false) ∧ X.cell? ⟨n0 + 1, 1, none⟩ = some (.bool deep) ∧ X.cell? ⟨n0 + 1, 2, none⟩ = some (.int .i64 mn) ∧ X.cell? ⟨n0 + 1, 3, none⟩ = some (.int .i64 mx) ∧ X.cell? ⟨n0 + 1, 4, none⟩ = some (.int .i64 ms)) := fun X hX =>
      ⟨Nat.le_trans z0 hX.size, (hX.cell (p := ⟨n0 + 1, _, none⟩) z0).trans o0, (hX.cell (p := ⟨n0 + 1, _, none⟩) z0).trans o1, (hX.cell (p := ⟨n0 + 1, _, none⟩) z0).trans o2, (hX.cell (p := ⟨n0 + 1, _, none⟩) z0).trans o3, (hX.cell (p := ⟨n0 + 1, _, none⟩) z0).trans o4⟩
    go_region_held3 (fun w' => w'.cell? ⟨n0 + 1, 0, none⟩ = some (.bool false) ∧ w'.cell? ⟨n0 + 1, 1, none⟩ = some (.bool deep) ∧ w'.cell? ⟨n0 + 1, 2, none⟩ = some (.int .i64 mn) ∧ w'.cell? ⟨n0 + 1, 3, none⟩ = some (.int .i64 mx) ∧ w'.cell? ⟨n0 + 1, 4, none⟩ = some (.int .i64 ms)) (go_keep) (first | (go_at_call 36; refine (meant_any _ _ _ hn _).mono ?_; rintro e w6 ⟨rfl, hm6, hz6, hb6⟩; have hbX : Below W0.heap.size W0 w6 := Below.trans (by repeat first | exact Below.refl _ _ | refine Below.drew ?_ | refine Below.alloc ?_ (by first | omega | (simp; done) | (simp; omega)) _) (hb6.mono (by first | omega | (simp; done) | (simp; omega))); obtain ⟨q0, q1, q2, q3, q4, q5⟩ := HC.out w6 hbX))
    all_goals go_wp2
    all_goals go_meet
    · have hz := HP.out.2.1
      replace hz6 : w6.heap.size = W0.heap.size + 1 := hz6
      refine ⟨_, W0.heap.size, W0.heap.size + 1, rfl, ⟨?_, ?_, ?_, by omega, by omega, by omega⟩, ?_⟩
      · have := World.alloc_heap_new (w6.alloc (Obj.cells (Array.replicate n (Value.bool false)) 4)) (Obj.cells #[Value.slice (some ⟨g, 0, none⟩) n cap, Value.bool false, Value.bool deep, Value.int IntKind.i64 mn, Value.int IntKind.i64 mx, Value.int IntKind.i64 ms, Value.nilFunc, Value.nilFunc, Value.slice (some ⟨W0.heap.size, 0, none⟩) n n, Value.slice (some ⟨W0.heap.size + 1, 0, none⟩) n n, Value.int IntKind.i64 0, Value.pointer none, Value.slice none 0 0, Value.slice none 0 0] 91)
        rw [show (w6.alloc (Obj.cells (Array.replicate n (Value.bool false)) 4)).heap.size = W0.heap.size + 1 + 1 from by simp; omega] at this
        exact this
      · rw [Below.heap_alloc _ _ _ (by simp; omega), Below.heap_alloc _ _ _ (by omega)]
        exact hm6
      · rw [Below.heap_alloc _ _ _ (by simp; omega)]
        have := World.alloc_heap_new w6 (Obj.cells (Array.replicate n (Value.bool false)) 4)
        rw [hz6] at this
        exact this
      · exact (hbX.alloc (by omega) _).alloc (by simp; omega) _
    · have hz := HP.out.2.1
      have hsz : (W0.alloc (Obj.cells (Array.replicate n (Value.bool false)) 4)).drew.heap.size = W0.heap.size + 1 := by simp
      rw [hsz] at hz6 hm6 hb6
      refine ⟨_, W0.heap.size + 1, W0.heap.size, rfl, ⟨?_, ?_, ?_, by omega, by omega, by omega⟩, ?_⟩
      · have := World.alloc_heap_new w6 (Obj.cells #[Value.slice (some ⟨g, 0, none⟩) n cap, Value.bool false, Value.bool deep, Value.int IntKind.i64 mn, Value.int IntKind.i64 mx, Value.int IntKind.i64 ms, Value.nilFunc, Value.nilFunc, Value.slice (some ⟨W0.heap.size + 1, 0, none⟩) n n, Value.slice (some ⟨W0.heap.size, 0, none⟩) n n, Value.int IntKind.i64 0, Value.pointer none, Value.slice none 0 0, Value.slice none 0 0] 91)
        rw [hz6] at this
        exact this
      · rw [Below.heap_alloc _ _ _ (by omega)]
        exact hm6
      · rw [Below.heap_alloc _ _ _ (by omega), hb6.block _ (by first | omega | (simp; done) | (simp; omega))]
        exact World.alloc_heap_new W0 _
      · exact hbX.alloc (by omega) _
  case rest =>
    obtain ⟨b, gm, ga, rfl, hN, hbc⟩ := hcut
    obtain ⟨hb0, hz0, ht0, ho0⟩ := HP.out
    have hB1 : Below w.heap.size w wc := hb0.trans (hbc.mono hb0.size)
    have hbl := hN.blk.lt
    have htw : wc.heap[n0]? = some (.cells #[.string ⟨#[45, 116, 114, 117, 101]⟩, .string ⟨#[]⟩, .int .i64 0, .int .i64 0, .slice none 0 0] 35 (0, 0)) := (hbc.block n0 (by omega)).trans ht0
    have HI := hide (wignored (some ⟨g, 0, none⟩) n cap wc)
    have HX := hide (⟨hN, hB1, htw⟩ : _ ∧ _ ∧ _)
    clear hN hB1 htw hb0 hz0 ht0 ho0 hbc hmk o0 o1 o2 o3 o4
    go_wp2_with fail
    refine HI.out.mono ?_
    rintro e w2 ⟨⟨pI, rfl⟩, hb2⟩
    obtain ⟨hN, hB1, htw⟩ := HX.out
    have hN2 := hN.below hb2
    have f2 : w2.frozen? ⟨b, 7, none⟩ = false := hN2.blk.frozen 7
    have c2 : w2.cell? ⟨b, 7, none⟩ = some .nilFunc := hN2.blk.cell 7
    have hn0l : n0 < wc.heap.size := (Array.getElem?_eq_some_iff.1 htw).1
    have hbn : n0 ≠ b := fun e => ty_ne (e ▸ htw) hN.blk (by decide)
    obtain ⟨W3, hW3⟩ : ∃ W3, w2.setCell ⟨b, 7, none⟩ (.func (.func 60) #[] #[.pointer (some ⟨pI, 0, none⟩)]) = W3 := ⟨_, rfl⟩
    have hN3 : NewW n0 g n cap deep mn mx ms .nilFunc (.func (.func 60) #[] #[.pointer (some ⟨pI, 0, none⟩)]) b gm ga W3 := by rw [← hW3]; exact hN2.set (wset_block hN2.blk)
    have ht3 : W3.heap[n0]? = some (.cells #[.string ⟨#[45, 116, 114, 117, 101]⟩, .string ⟨#[]⟩, .int .i64 0, .int .i64 0, .slice none 0 0] 35 (0, 0)) := by rw [← hW3, wset_other hbn, hb2.block n0 hn0l]; exact htw
    have hB3 : Below w.heap.size w W3 := by rw [← hW3]; exact (hB1.trans (hb2.mono hB1.size)).setCell (p := ⟨b, 7, none⟩) (by rw [hn0]; exact hN.lb) _
    have hz3 : n0 < W3.heap.size := (Array.getElem?_eq_some_iff.1 ht3).1
    have t0 : W3.cell? ⟨n0, 0, none⟩ = some (.string ⟨#[45, 116, 114, 117, 101]⟩) := by rw [Lib.cell_of_heap ht3]; rfl
    have t1 : W3.cell? ⟨n0, 1, none⟩ = some (.string ⟨#[]⟩) := by rw [Lib.cell_of_heap ht3]; rfl
    have t2 : W3.cell? ⟨n0, 2, none⟩ = some (.int .i64 0) := by rw [Lib.cell_of_heap ht3]; rfl
    have t3 : W3.cell? ⟨n0, 3, none⟩ = some (.int .i64 0) := by rw [Lib.cell_of_heap ht3]; rfl
    have t4 : W3.cell? ⟨n0, 4, none⟩ = some (.slice none 0 0) := by rw [Lib.cell_of_heap ht3]; rfl
    have HCK := hide (checkOf_true b W3)
    have HW3 := hide hW3
    have HY := hide (⟨hN3, ht3, hB3, hbn⟩ : _ ∧ _ ∧ _ ∧ _)
    clear hN hB1 htw hN2 hN3 ht3 hB3 hb2 hW3 hbl hbn
    go_wp2_with (rw [HW3.out])
    go_wp2_with fail
    refine HCK.out.mono ?_
    rintro e w4 ⟨rfl, hb4⟩
    obtain ⟨hN3, ht3, hB3, hbn⟩ := HY.out
    have hN4 := hN3.below hb4
    have f4 : w4.frozen? ⟨b, 6, none⟩ = false := hN4.blk.frozen 6
    have c4 : w4.cell? ⟨b, 6, none⟩ = some .nilFunc := hN4.blk.cell 6
    obtain ⟨W5, hW5⟩ : ∃ W5, w4.setCell ⟨b, 6, none⟩ (.func (.func 95) #[] #[]) = W5 := ⟨_, rfl⟩
    have hN5 : NewW n0 g n cap deep mn mx ms (.func (.func 95) #[] #[]) (.func (.func 60) #[] #[.pointer (some ⟨pI, 0, none⟩)]) b gm ga W5 := by rw [← hW5]; exact hN4.set (wset_block hN4.blk)
    have ht5 : W5.heap[n0]? = some (.cells #[.string ⟨#[45, 116, 114, 117, 101]⟩, .string ⟨#[]⟩, .int .i64 0, .int .i64 0, .slice none 0 0] 35 (0, 0)) := by rw [← hW5, wset_other hbn, hb4.block n0 hz3]; exact ht3
    have hB5 : Below w.heap.size w W5 := by rw [← hW5]; exact (hB3.trans (hb4.mono hB3.size)).setCell (p := ⟨b, 6, none⟩) (by rw [hn0]; exact hN3.lb) _
    have t0 : W5.cell? ⟨n0, 0, none⟩ = some (.string ⟨#[45, 116, 114, 117, 101]⟩) := by rw [Lib.cell_of_heap ht5]; rfl
    have t1 : W5.cell? ⟨n0, 1, none⟩ = some (.string ⟨#[]⟩) := by rw [Lib.cell_of_heap ht5]; rfl
    have t2 : W5.cell? ⟨n0, 2, none⟩ = some (.int .i64 0) := by rw [Lib.cell_of_heap ht5]; rfl
    have t3 : W5.cell? ⟨n0, 3, none⟩ = some (.int .i64 0) := by rw [Lib.cell_of_heap ht5]; rfl
    have t4 : W5.cell? ⟨n0, 4, none⟩ = some (.slice none 0 0) := by rw [Lib.cell_of_heap ht5]; rfl
    have HAC := hide (acts_true W5)
    have HW5 := hide hW5
    have HZ := hide (⟨hN5, hB5⟩ : _ ∧ _)
    clear hN3 ht3 hB3 hbn hN4 hN5 ht5 hB5 hb4 hW5
    go_wp2_with (rw [HW5.out])
    go_wp2_with fail
    refine HAC.out.mono ?_
    rintro e w6 ⟨rfl, hb6⟩
    obtain ⟨hN5, hB5⟩ := HZ.out
    have hN6 := hN5.below hb6
    have hB6 : Below w.heap.size w w6 := hB5.trans (hb6.mono hB5.size)
    have c6 : w6.cell? ⟨b, 6, none⟩ = some (.func (.func 95) #[] #[]) := hN6.blk.cell 6
    have f6 : w6.frozen? ⟨b, 6, none⟩ = false := hN6.blk.frozen 6
    have hbl6 := hN6.blk.lt
    have HU := hide (⟨hN6, hB6⟩ : _ ∧ _)
    clear hN5 hB5 hN6 hB6 hb6
    go_wp2_with fail
    go_region_with (first
      | (go_at_call 41; refine (print2_any b _).mono ?_; rintro e w7 ⟨wb, eb, rfl, hpr7, hb7⟩; have hs7 : b < w7.heap.size := Nat.lt_of_lt_of_le hbl6 hb7.size; have c7 : w7.cell? ⟨b, 6, none⟩ = some (.func (.func 95) #[] #[]) := (hb7.cell (p := ⟨b, 6, none⟩) hbl6).trans c6)
      | (go_at_call 40; refine (allOf2_any _ _ ⟨_, _, _, rfl⟩).mono ?_; rintro e w8 ⟨kb, rfl, hkb8, hb8⟩; have hba : Below w7.heap.size w7 w8 := Below.trans ((Below.refl _ _).alloc (Nat.le_refl _) _) (hb8.mono (by simp)); have hB7 : Below w6.heap.size w6 w8 := ((Below.refl _ w6).drew.trans hb7).trans (hba.mono hb7.size); have c8 : w8.cell? ⟨b, 6, none⟩ = some (.func (.func 95) #[] #[]) := (hB7.cell (p := ⟨b, 6, none⟩) hbl6).trans c6; have f8 : w8.frozen? ⟨b, 6, none⟩ = false := (hB7.frozen (p := ⟨b, 6, none⟩) hbl6).trans f6))
    all_goals go_wp2
    all_goals go_ret
    all_goals (
      obtain ⟨hN6, hB6⟩ := HU.out
      have hN8 := hN6.below hB7
      have hkr8 : w8.heap[w7.heap.size]? = some (.cells #[.func (.func 95) #[] #[], .func (.func 70) #[] #[.pointer (some ⟨wb, 0, none⟩), .pointer (some ⟨eb, 0, none⟩)]] 85 (0, 0)) := (hb8.block _ (by simp)).trans (World.alloc_heap_new w7 _)
      have hw8 : w8.heap[wb]? = _ := (hba.block wb (Array.getElem?_eq_some_iff.1 hpr7.w).1).trans hpr7.w
      have he8 : w8.heap[eb]? = _ := (hba.block eb (Array.getElem?_eq_some_iff.1 hpr7.e).1).trans hpr7.e
      exact ⟨b, gm, ga, kb, w7.heap.size, wb, eb, _, rfl, by rw [hn0]; exact hN8.set (wset_block hN8.blk), (wset_other (fun e => ty_ne (e ▸ hkb8) hN8.blk (by decide))).trans hkb8, (wset_other (fun e => ty_ne (k := b) (e ▸ hkr8) hN8.blk (by decide))).trans hkr8, ⟨(wset_other (fun e => ty_ne (e ▸ hw8) hN8.blk (by decide))).trans hw8, (wset_other (fun e => ty_ne (e ▸ he8) hN8.blk (by decide))).trans he8⟩, (hB6.trans (hB7.mono hB6.size)).setCell (p := ⟨b, 6, none⟩) (by rw [hn0]; exact hN6.lb) _⟩)
end Go.Proofs.YtfemboojdablhaaGreatDoor.Tre
