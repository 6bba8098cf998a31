/- Merged: WkO, WkP, WkQ, WkR, WkS, WkT. -/
import Derived.Test.YtfemboojdablhaaGreatDoorMi40
import Derived.Deep.Cut
import Derived.Test.YtfemboojdablhaaGreatDoorMi33
import Derived.Recover
namespace Go.Proofs.YtfemboojdablhaaGreatDoor.Tre
open Go.RowKit Go.Shelf
abbrev optV (deep : Bool) (mn mx ms : Int) : Value := .agg #[.bool false, .bool deep, .int .i64 mn, .int .i64 mx, .int .i64 ms]
structure NewW (n0 g n cap : Nat) (deep : Bool) (mn mx ms : Int) (wv iv : Value) (b gm ga : Nat) (W : World) : Prop where
  blk : WkO W b (.slice (some ⟨g, 0, none⟩) n cap) deep mn mx ms wv iv (.slice (some ⟨gm, 0, none⟩) n n) (.slice (some ⟨ga, 0, none⟩) n n) 0 (.pointer none) (.slice none 0 0) (.slice none 0 0)
  mea : W.heap[gm]? = some (.cells (meaL n).toArray 3 (0, 0))
  abv : W.heap[ga]? = some (.cells (Array.replicate n (Value.bool false)) 4 (0, 0))
  lb : n0 ≤ b
  lm : n0 ≤ gm
  la : n0 ≤ ga
theorem NewW.below {n0 g n cap : Nat} {deep : Bool} {mn mx ms : Int} {wv iv : Value} {b gm ga : Nat} {W W' : World} (h : NewW n0 g n cap deep mn mx ms wv iv b gm ga W) (hb : Below W.heap.size W W') : NewW n0 g n cap deep mn mx ms wv iv b gm ga W' :=
  ⟨(hb.block b h.blk.lt).trans h.blk, (hb.block gm (Array.getElem?_eq_some_iff.1 h.mea).1).trans h.mea, (hb.block ga (Array.getElem?_eq_some_iff.1 h.abv).1).trans h.abv, h.lb, h.lm, h.la⟩
theorem NewW.set {n0 g n cap : Nat} {deep : Bool} {mn mx ms : Int} {wv iv wv' iv' : Value} {b gm ga i : Nat} {v : Value} {W : World} (h : NewW n0 g n cap deep mn mx ms wv iv b gm ga W) (hs : WkO (W.setCell ⟨b, i, none⟩ v) b (.slice (some ⟨g, 0, none⟩) n cap) deep mn mx ms wv' iv' (.slice (some ⟨gm, 0, none⟩) n n) (.slice (some ⟨ga, 0, none⟩) n n) 0 (.pointer none) (.slice none 0 0) (.slice none 0 0)) : NewW n0 g n cap deep mn mx ms wv' iv' b gm ga (W.setCell ⟨b, i, none⟩ v) :=
  ⟨hs, (wset_other (fun e => ty_ne (e ▸ h.mea) h.blk (by decide))).trans h.mea, (wset_other (fun e => ty_ne (e ▸ h.abv) h.blk (by decide))).trans h.abv, h.lb, h.lm, h.la⟩
theorem print2_any (b : Nat) (w : World) : Calls Tryz.prog 41 #[.pointer (some ⟨b, 0, none⟩), .int .u8 10] w fun e w' => ∃ wb eb, e = .returned (.func (.func 70) #[] #[.pointer (some ⟨wb, 0, none⟩), .pointer (some ⟨eb, 0, none⟩)]) ∧ PrB w' b wb eb ∧ Below w.heap.size w w' := by
  refine (print_any b w).mono ?_
  rintro e w' ⟨rfl, rfl⟩
  refine ⟨_, _, rfl, ⟨?_, ?_⟩, ((Below.refl _ _).alloc (Nat.le_refl _) _).alloc (by simp) _⟩
  · rw [Below.heap_alloc _ _ _ (by simp)]; exact World.alloc_heap_new w _
  · have := World.alloc_heap_new (w.alloc (.cells #[.pointer (some ⟨b, 0, none⟩)] 63)) (.cells #[.int .u8 10] 5)
    simpa using this
theorem allOf2_any (kv : Value) (w : World) (hk : ∃ g m cc, kv = .slice (some ⟨g, 0, none⟩) m cc) : Calls Tryz.prog 40 #[kv] w fun e w' => ∃ kb, e = .returned (.func (.func 69) #[] #[.pointer (some ⟨kb, 0, none⟩)]) ∧ w'.heap[kb]? = some (.cells #[kv] 97 (0, 0)) ∧ Below w.heap.size w w' := by
  refine (allOf_any kv w hk).mono ?_
  rintro e w' ⟨rfl, rfl⟩
  exact ⟨_, rfl, World.alloc_heap_new w _, (Below.refl _ _).alloc (Nat.le_refl _) _⟩
set_option maxRecDepth 100000 in
set_option maxHeartbeats 4000000 in
theorem newW_any (g cap n : Nat) (deep : Bool) (mn mx ms : Int) (hn : n ≤ 1000) (w : World) :
    Calls Tryz.prog 22 #[.slice (some ⟨g, 0, none⟩) n cap, trueV, optV deep mn mx ms] w fun e w' => ∃ (b gm ga kb kr wb eb : Nat) (iv : Value), e = .returned (.pointer (some ⟨b, 0, none⟩)) ∧
      NewW w.heap.size g n cap deep mn mx ms (.func (.func 69) #[] #[.pointer (some ⟨kb, 0, none⟩)]) iv b gm ga w' ∧ w'.heap[kb]? = some (.cells #[.slice (some ⟨kr, 0, none⟩) 2 2] 97 (0, 0)) ∧ w'.heap[kr]? = some (.cells #[.func (.func 95) #[] #[], .func (.func 70) #[] #[.pointer (some ⟨wb, 0, none⟩), .pointer (some ⟨eb, 0, none⟩)]] 85 (0, 0)) ∧ PrB w' b wb eb ∧ Below w.heap.size w w' := by
  obtain ⟨n0, hn0⟩ : ∃ n0, w.heap.size = n0 := ⟨_, rfl⟩
  obtain ⟨W0, hW0⟩ : ∃ W0, (w.alloc (.cells #[.string ⟨#[45, 116, 114, 117, 101]⟩, .string ⟨#[]⟩, .int .i64 0, .int .i64 0, .slice none 0 0] 35)).alloc (.cells #[.bool false, .bool deep, .int .i64 mn, .int .i64 mx, .int .i64 ms] 37) = W0 := ⟨_, rfl⟩
  have hb0 : Below w.heap.size w W0 := by rw [← hW0]; exact ((Below.refl _ _).alloc (Nat.le_refl _) _).alloc (by simp) _
  have hz0 : W0.heap.size = n0 + 2 := by rw [← hW0, ← hn0]; simp
  have ht0 : W0.heap[n0]? = some (.cells #[.string ⟨#[45, 116, 114, 117, 101]⟩, .string ⟨#[]⟩, .int .i64 0, .int .i64 0, .slice none 0 0] 35 (0, 0)) := by
    rw [← hW0, ← hn0, Below.heap_alloc _ _ _ (by simp)]; exact World.alloc_heap_new w _
  have ho0 : W0.heap[n0 + 1]? = some (.cells #[.bool false, .bool deep, .int .i64 mn, .int .i64 mx, .int .i64 ms] 37 (0, 0)) := by
    rw [← hW0, ← hn0]
    have := World.alloc_heap_new (w.alloc (.cells #[.string ⟨#[45, 116, 114, 117, 101]⟩, .string ⟨#[]⟩, .int .i64 0, .int .i64 0, .slice none 0 0] 35)) (.cells #[.bool false, .bool deep, .int .i64 mn, .int .i64 mx, .int .i64 ms] 37)
    simpa using this
  have o0 : W0.cell? ⟨n0 + 1, 0, none⟩ = some (.bool false) := by rw [Lib.cell_of_heap ho0]; rfl
  have o1 : W0.cell? ⟨n0 + 1, 1, none⟩ = some (.bool deep) := by rw [Lib.cell_of_heap ho0]; rfl
  have o2 : W0.cell? ⟨n0 + 1, 2, none⟩ = some (.int .i64 mn) := by rw [Lib.cell_of_heap ho0]; rfl
  have o3 : W0.cell? ⟨n0 + 1, 3, none⟩ = some (.int .i64 mx) := by rw [Lib.cell_of_heap ho0]; rfl
  have o4 : W0.cell? ⟨n0 + 1, 4, none⟩ = some (.int .i64 ms) := by rw [Lib.cell_of_heap ho0]; rfl
  have HMK := hide (make_bools n hn)
  have HW0 := hide hW0
  have HP := hide (⟨hb0, hz0, ht0, ho0⟩ : _ ∧ _ ∧ _ ∧ _)
  have hmk := make_bools n hn
  clear hb0 hz0 ht0 ho0 hW0
  go_enter Tryz.func22, Tryz.ntmps22
  go_upto_region 1 with (rw [HW0.out])
  go_cut [7] from 8 (fun v wx => ∃ b gm ga, v = .pointer (some ⟨b, 0, none⟩) ∧ NewW n0 g n cap deep mn mx ms .nilFunc .nilFunc b gm ga wx ∧ Below W0.heap.size W0 wx)
  case first =>
    have z0 : n0 + 2 ≤ W0.heap.size := by have := HP.out.2.1; omega
    have HC : Hid (∀ X, Below W0.heap.size W0 X → n0 + 2 ≤ X.heap.size ∧ X.cell? ⟨n0 + 1, 0, none⟩ = some (.bool false) ∧ X.cell? ⟨n0 + 1, 1, none⟩ = some (.bool deep) ∧ X.cell? ⟨n0 + 1, 2, none⟩ = some (.int .i64 mn) ∧ X.cell? ⟨n0 + 1, 3, none⟩ = some (.int .i64 mx) ∧ X.cell? ⟨n0 + 1, 4, none⟩ = some (.int .i64 ms)) := fun X hX =>
      ⟨Nat.le_trans z0 hX.size, (hX.cell (p := ⟨n0 + 1, _, none⟩) z0).trans o0, (hX.cell (p := ⟨n0 + 1, _, none⟩) z0).trans o1, (hX.cell (p := ⟨n0 + 1, _, none⟩) z0).trans o2, (hX.cell (p := ⟨n0 + 1, _, none⟩) z0).trans o3, (hX.cell (p := ⟨n0 + 1, _, none⟩) z0).trans o4⟩
    go_region_held3 (fun w' => w'.cell? ⟨n0 + 1, 0, none⟩ = some (.bool false) ∧ w'.cell? ⟨n0 + 1, 1, none⟩ = some (.bool deep) ∧ w'.cell? ⟨n0 + 1, 2, none⟩ = some (.int .i64 mn) ∧ w'.cell? ⟨n0 + 1, 3, none⟩ = some (.int .i64 mx) ∧ w'.cell? ⟨n0 + 1, 4, none⟩ = some (.int .i64 ms)) (go_keep) (first | (go_at_call 36; refine (meant_any _ _ _ hn _).mono ?_; rintro e w6 ⟨rfl, hm6, hz6, hb6⟩; have hbX : Below W0.heap.size W0 w6 := Below.trans (by repeat first | exact Below.refl _ _ | refine Below.drew ?_ | refine Below.alloc ?_ (by first | omega | (simp; done) | (simp; omega)) _) (hb6.mono (by first | omega | (simp; done) | (simp; omega))); obtain ⟨q0, q1, q2, q3, q4, q5⟩ := HC.out w6 hbX))
    all_goals go_wp2
    all_goals go_meet
    · have hz := HP.out.2.1
      replace hz6 : w6.heap.size = W0.heap.size + 1 := hz6
      refine ⟨_, W0.heap.size, W0.heap.size + 1, rfl, ⟨?_, ?_, ?_, by omega, by omega, by omega⟩, ?_⟩
      · have := World.alloc_heap_new (w6.alloc (Obj.cells (Array.replicate n (Value.bool false)) 4)) (Obj.cells #[Value.slice (some ⟨g, 0, none⟩) n cap, Value.bool false, Value.bool deep, Value.int IntKind.i64 mn, Value.int IntKind.i64 mx, Value.int IntKind.i64 ms, Value.nilFunc, Value.nilFunc, Value.slice (some ⟨W0.heap.size, 0, none⟩) n n, Value.slice (some ⟨W0.heap.size + 1, 0, none⟩) n n, Value.int IntKind.i64 0, Value.pointer none, Value.slice none 0 0, Value.slice none 0 0] 91)
        rw [show (w6.alloc (Obj.cells (Array.replicate n (Value.bool false)) 4)).heap.size = W0.heap.size + 1 + 1 from by simp; omega] at this
        exact this
      · rw [Below.heap_alloc _ _ _ (by simp; omega), Below.heap_alloc _ _ _ (by omega)]
        exact hm6
      · rw [Below.heap_alloc _ _ _ (by simp; omega)]
        have := World.alloc_heap_new w6 (Obj.cells (Array.replicate n (Value.bool false)) 4)
        rw [hz6] at this
        exact this
      · exact (hbX.alloc (by omega) _).alloc (by simp; omega) _
    · have hz := HP.out.2.1
      have hsz : (W0.alloc (Obj.cells (Array.replicate n (Value.bool false)) 4)).drew.heap.size = W0.heap.size + 1 := by simp
      rw [hsz] at hz6 hm6 hb6
      refine ⟨_, W0.heap.size + 1, W0.heap.size, rfl, ⟨?_, ?_, ?_, by omega, by omega, by omega⟩, ?_⟩
      · have := World.alloc_heap_new w6 (Obj.cells #[Value.slice (some ⟨g, 0, none⟩) n cap, Value.bool false, Value.bool deep, Value.int IntKind.i64 mn, Value.int IntKind.i64 mx, Value.int IntKind.i64 ms, Value.nilFunc, Value.nilFunc, Value.slice (some ⟨W0.heap.size + 1, 0, none⟩) n n, Value.slice (some ⟨W0.heap.size, 0, none⟩) n n, Value.int IntKind.i64 0, Value.pointer none, Value.slice none 0 0, Value.slice none 0 0] 91)
        rw [hz6] at this
        exact this
      · rw [Below.heap_alloc _ _ _ (by omega)]
        exact hm6
      · rw [Below.heap_alloc _ _ _ (by omega), hb6.block _ (by first | omega | (simp; done) | (simp; omega))]
        exact World.alloc_heap_new W0 _
      · exact hbX.alloc (by omega) _
  case rest =>
    obtain ⟨b, gm, ga, rfl, hN, hbc⟩ := hcut
    obtain ⟨hb0, hz0, ht0, ho0⟩ := HP.out
    have hB1 : Below w.heap.size w wc := hb0.trans (hbc.mono hb0.size)
    have hbl := hN.blk.lt
    have htw : wc.heap[n0]? = some (.cells #[.string ⟨#[45, 116, 114, 117, 101]⟩, .string ⟨#[]⟩, .int .i64 0, .int .i64 0, .slice none 0 0] 35 (0, 0)) := (hbc.block n0 (by omega)).trans ht0
    have HI := hide (wignored (some ⟨g, 0, none⟩) n cap wc)
    have HX := hide (⟨hN, hB1, htw⟩ : _ ∧ _ ∧ _)
    clear hN hB1 htw hb0 hz0 ht0 ho0 hbc hmk o0 o1 o2 o3 o4
    go_wp2_with fail
    refine HI.out.mono ?_
    rintro e w2 ⟨⟨pI, rfl⟩, hb2⟩
    obtain ⟨hN, hB1, htw⟩ := HX.out
    have hN2 := hN.below hb2
    have f2 : w2.frozen? ⟨b, 7, none⟩ = false := hN2.blk.frozen 7
    have c2 : w2.cell? ⟨b, 7, none⟩ = some .nilFunc := hN2.blk.cell 7
    have hn0l : n0 < wc.heap.size := (Array.getElem?_eq_some_iff.1 htw).1
    have hbn : n0 ≠ b := fun e => ty_ne (e ▸ htw) hN.blk (by decide)
    obtain ⟨W3, hW3⟩ : ∃ W3, w2.setCell ⟨b, 7, none⟩ (.func (.func 60) #[] #[.pointer (some ⟨pI, 0, none⟩)]) = W3 := ⟨_, rfl⟩
    have hN3 : NewW n0 g n cap deep mn mx ms .nilFunc (.func (.func 60) #[] #[.pointer (some ⟨pI, 0, none⟩)]) b gm ga W3 := by rw [← hW3]; exact hN2.set (wset_block hN2.blk)
    have ht3 : W3.heap[n0]? = some (.cells #[.string ⟨#[45, 116, 114, 117, 101]⟩, .string ⟨#[]⟩, .int .i64 0, .int .i64 0, .slice none 0 0] 35 (0, 0)) := by rw [← hW3, wset_other hbn, hb2.block n0 hn0l]; exact htw
    have hB3 : Below w.heap.size w W3 := by rw [← hW3]; exact (hB1.trans (hb2.mono hB1.size)).setCell (p := ⟨b, 7, none⟩) (by rw [hn0]; exact hN.lb) _
    have hz3 : n0 < W3.heap.size := (Array.getElem?_eq_some_iff.1 ht3).1
    have t0 : W3.cell? ⟨n0, 0, none⟩ = some (.string ⟨#[45, 116, 114, 117, 101]⟩) := by rw [Lib.cell_of_heap ht3]; rfl
    have t1 : W3.cell? ⟨n0, 1, none⟩ = some (.string ⟨#[]⟩) := by rw [Lib.cell_of_heap ht3]; rfl
    have t2 : W3.cell? ⟨n0, 2, none⟩ = some (.int .i64 0) := by rw [Lib.cell_of_heap ht3]; rfl
    have t3 : W3.cell? ⟨n0, 3, none⟩ = some (.int .i64 0) := by rw [Lib.cell_of_heap ht3]; rfl
    have t4 : W3.cell? ⟨n0, 4, none⟩ = some (.slice none 0 0) := by rw [Lib.cell_of_heap ht3]; rfl
    have HCK := hide (checkOf_true b W3)
    have HW3 := hide hW3
    have HY := hide (⟨hN3, ht3, hB3, hbn⟩ : _ ∧ _ ∧ _ ∧ _)
    clear hN hB1 htw hN2 hN3 ht3 hB3 hb2 hW3 hbl hbn
    go_wp2_with (rw [HW3.out])
    go_wp2_with fail
    refine HCK.out.mono ?_
    rintro e w4 ⟨rfl, hb4⟩
    obtain ⟨hN3, ht3, hB3, hbn⟩ := HY.out
    have hN4 := hN3.below hb4
    have f4 : w4.frozen? ⟨b, 6, none⟩ = false := hN4.blk.frozen 6
    have c4 : w4.cell? ⟨b, 6, none⟩ = some .nilFunc := hN4.blk.cell 6
    obtain ⟨W5, hW5⟩ : ∃ W5, w4.setCell ⟨b, 6, none⟩ (.func (.func 95) #[] #[]) = W5 := ⟨_, rfl⟩
    have hN5 : NewW n0 g n cap deep mn mx ms (.func (.func 95) #[] #[]) (.func (.func 60) #[] #[.pointer (some ⟨pI, 0, none⟩)]) b gm ga W5 := by rw [← hW5]; exact hN4.set (wset_block hN4.blk)
    have ht5 : W5.heap[n0]? = some (.cells #[.string ⟨#[45, 116, 114, 117, 101]⟩, .string ⟨#[]⟩, .int .i64 0, .int .i64 0, .slice none 0 0] 35 (0, 0)) := by rw [← hW5, wset_other hbn, hb4.block n0 hz3]; exact ht3
    have hB5 : Below w.heap.size w W5 := by rw [← hW5]; exact (hB3.trans (hb4.mono hB3.size)).setCell (p := ⟨b, 6, none⟩) (by rw [hn0]; exact hN3.lb) _
    have t0 : W5.cell? ⟨n0, 0, none⟩ = some (.string ⟨#[45, 116, 114, 117, 101]⟩) := by rw [Lib.cell_of_heap ht5]; rfl
    have t1 : W5.cell? ⟨n0, 1, none⟩ = some (.string ⟨#[]⟩) := by rw [Lib.cell_of_heap ht5]; rfl
    have t2 : W5.cell? ⟨n0, 2, none⟩ = some (.int .i64 0) := by rw [Lib.cell_of_heap ht5]; rfl
    have t3 : W5.cell? ⟨n0, 3, none⟩ = some (.int .i64 0) := by rw [Lib.cell_of_heap ht5]; rfl
    have t4 : W5.cell? ⟨n0, 4, none⟩ = some (.slice none 0 0) := by rw [Lib.cell_of_heap ht5]; rfl
    have HAC := hide (acts_true W5)
    have HW5 := hide hW5
    have HZ := hide (⟨hN5, hB5⟩ : _ ∧ _)
    clear hN3 ht3 hB3 hbn hN4 hN5 ht5 hB5 hb4 hW5
    go_wp2_with (rw [HW5.out])
    go_wp2_with fail
    refine HAC.out.mono ?_
    rintro e w6 ⟨rfl, hb6⟩
    obtain ⟨hN5, hB5⟩ := HZ.out
    have hN6 := hN5.below hb6
    have hB6 : Below w.heap.size w w6 := hB5.trans (hb6.mono hB5.size)
    have c6 : w6.cell? ⟨b, 6, none⟩ = some (.func (.func 95) #[] #[]) := hN6.blk.cell 6
    have f6 : w6.frozen? ⟨b, 6, none⟩ = false := hN6.blk.frozen 6
    have hbl6 := hN6.blk.lt
    have HU := hide (⟨hN6, hB6⟩ : _ ∧ _)
    clear hN5 hB5 hN6 hB6 hb6
    go_wp2_with fail
    go_region_with (first
      | (go_at_call 41; refine (print2_any b _).mono ?_; rintro e w7 ⟨wb, eb, rfl, hpr7, hb7⟩; have hs7 : b < w7.heap.size := Nat.lt_of_lt_of_le hbl6 hb7.size; have c7 : w7.cell? ⟨b, 6, none⟩ = some (.func (.func 95) #[] #[]) := (hb7.cell (p := ⟨b, 6, none⟩) hbl6).trans c6)
      | (go_at_call 40; refine (allOf2_any _ _ ⟨_, _, _, rfl⟩).mono ?_; rintro e w8 ⟨kb, rfl, hkb8, hb8⟩; have hba : Below w7.heap.size w7 w8 := Below.trans ((Below.refl _ _).alloc (Nat.le_refl _) _) (hb8.mono (by simp)); have hB7 : Below w6.heap.size w6 w8 := ((Below.refl _ w6).drew.trans hb7).trans (hba.mono hb7.size); have c8 : w8.cell? ⟨b, 6, none⟩ = some (.func (.func 95) #[] #[]) := (hB7.cell (p := ⟨b, 6, none⟩) hbl6).trans c6; have f8 : w8.frozen? ⟨b, 6, none⟩ = false := (hB7.frozen (p := ⟨b, 6, none⟩) hbl6).trans f6))
    all_goals go_wp2
    all_goals go_ret
    all_goals (
      obtain ⟨hN6, hB6⟩ := HU.out
      have hN8 := hN6.below hB7
      have hkr8 : w8.heap[w7.heap.size]? = some (.cells #[.func (.func 95) #[] #[], .func (.func 70) #[] #[.pointer (some ⟨wb, 0, none⟩), .pointer (some ⟨eb, 0, none⟩)]] 85 (0, 0)) := (hb8.block _ (by simp)).trans (World.alloc_heap_new w7 _)
      have hw8 : w8.heap[wb]? = _ := (hba.block wb (Array.getElem?_eq_some_iff.1 hpr7.w).1).trans hpr7.w
      have he8 : w8.heap[eb]? = _ := (hba.block eb (Array.getElem?_eq_some_iff.1 hpr7.e).1).trans hpr7.e
      exact ⟨b, gm, ga, kb, w7.heap.size, wb, eb, _, rfl, by rw [hn0]; exact hN8.set (wset_block hN8.blk), (wset_other (fun e => ty_ne (e ▸ hkb8) hN8.blk (by decide))).trans hkb8, (wset_other (fun e => ty_ne (k := b) (e ▸ hkr8) hN8.blk (by decide))).trans hkr8, ⟨(wset_other (fun e => ty_ne (e ▸ hw8) hN8.blk (by decide))).trans hw8, (wset_other (fun e => ty_ne (e ▸ he8) hN8.blk (by decide))).trans he8⟩, (hB6.trans (hB7.mono hB6.size)).setCell (p := ⟨b, 6, none⟩) (by rw [hn0]; exact hN6.lb) _⟩)
end Go.Proofs.YtfemboojdablhaaGreatDoor.Tre
namespace Go.Proofs.YtfemboojdablhaaGreatDoor.Tre
open Go.RowKit Go.Shelf
theorem parts_slash : partsS ⟨#[47]⟩ = [] := by
  unfold partsS cutS
  rw [show splitL 47 (⟨#[47]⟩ : ByteArray).data.toList = [[], []] from by simp [splitL]]
  rw [List.filter_eq_nil_iff]
  intro a ha
  simp at ha
  subst ha
  simp [keep, ByteArray.toList_eq, bs]
theorem suffix_slash (w : World) : Calls Tryz.prog 117 #[.string ⟨#[47]⟩, .string ⟨#[47]⟩] w fun e w' => e = .returned (.bool true) ∧ w' = w := by
  refine (suffix_any ⟨#[47]⟩ w (by decide) (by decide)).mono ?_
  rintro e w' ⟨rfl, rfl⟩
  exact ⟨rfl, rfl⟩
set_option maxRecDepth 100000 in
set_option maxHeartbeats 4000000 in
theorem wfind_root (C b g cap : Nat) (L : List NodeD) (n : NodeD) (links : Nat) (w : World) (hn : L[0]? = some n) (hd : dirD n = true) (hrow : NodeRow C w (.slice (some ⟨g, 0, none⟩) L.length cap) L) (hC : C ≤ w.heap.size) (hfb : FB w b (.slice (some ⟨g, 0, none⟩) L.length cap) links) :
    Calls Tryz.prog 75 #[.pointer (some ⟨b, 0, none⟩), .int .i64 0, .string ⟨#[47]⟩, .bool false] w fun e w' => e = .returned (.tuple #[.int .i64 0, .nilIface]) ∧ Below w.heap.size w w' := by
  have hl : 0 < L.length := (List.getElem?_eq_some_iff.1 hn).1
  have hlI : (0 : Int) < (L.length : Int) := by omega
  have HROW := hide hrow
  have HFB := hide hfb
  have hbl := hfb.lt
  have cc0 := hfb.c0
  have HP := hide (parts_any ⟨#[47]⟩ w (by decide))
  have HSU := hide (suffix_slash w)
  have HN := hide (hasNodeW (some ⟨g, 0, none⟩) L.length cap 0 w (by omega) (by omega))
  have HDI : ∀ w', Hid (Calls Tryz.prog 86 #[.int .u8 n.kind] w' fun e w'' => e = .returned (.bool true) ∧ w'' = w') := fun w' => by
    have := isdir_any n.kind w'
    rw [show (n.kind == 100 || n.kind == 120) = true from hd] at this
    exact this
  clear hrow hfb
  go_enter Tryz.func75, Tryz.ntmps75
  go_wp2_with fail
  refine (unhide HN).mono ?_
  rintro e ww ⟨rfl, hww⟩
  rw [hww]
  clear hww
  go_wp2_with fail
  refine (unhide HSU).mono ?_
  rintro e ww2 ⟨rfl, hww⟩
  rw [hww]
  clear hww
  go_wp2_with fail
  refine (unhide HP).mono ?_
  rintro e w1 ⟨v1, rfl, hown1, hb1⟩
  rw [parts_slash] at hown1
  obtain ⟨a1, cap1, rfl⟩ : ∃ a1 cap1, v1 = .slice a1 0 cap1 := by
    rcases hown1.2 with ⟨e, _⟩ | ⟨g1, cap1, cur, e, _⟩
    · exact ⟨_, _, e⟩
    · exact ⟨_, _, e⟩
  have hf1 := (unhide HFB).below hb1 hbl
  have d0 := hf1.c0
  obtain ⟨kv, hna, _⟩ : ∃ kv, NodeAt w1 g 0 n kv ∧ IntRow C w1 kv n.kids := by
    rcases (unhide HROW).below (hb1.mono hC) with ⟨e, _⟩ | ⟨g', cap', e, _, _, hx⟩
    · cases e
    · simp only [Value.slice.injEq, Option.some.injEq, Addr.mk.injEq] at e
      obtain ⟨⟨rfl, _⟩, _⟩ := e
      exact hx 0 n hn
  have n0 : w1.cell? ⟨g, 0, none⟩ = some (.int .u8 n.kind) := by have := hna.1; simpa using this
  have HB1 := hide hb1
  clear hb1 hf1 hna hown1 hn hd
  go_wp2
  refine wp_loop_rounds 1 ?_
  rw [rounds_succ]
  go_wp2_with (go_at_call 86; refine (HDI _).out.mono ?_; rintro e w6 ⟨rfl, rfl⟩)
  go_ret2
  exact ⟨rfl, HB1.out⟩
set_option maxRecDepth 100000 in
set_option maxHeartbeats 2000000 in
theorem find_root (C g cap : Nat) (L : List NodeD) (n : NodeD) (w : World) (hn : L[0]? = some n) (hd : dirD n = true) (hrow : NodeRow C w (.slice (some ⟨g, 0, none⟩) L.length cap) L) (hC : C ≤ w.heap.size) :
    Calls Tryz.prog 43 #[.slice (some ⟨g, 0, none⟩) L.length cap, .int .i64 0, .string ⟨#[47]⟩, .bool false] w fun e w' => e = .returned (.tuple #[.int .i64 0, .int .i64 0]) ∧ Below w.heap.size w w' := by
  have HF : ∀ W0, FB W0 w.heap.size (.slice (some ⟨g, 0, none⟩) L.length cap) 0 → Below w.heap.size w W0 → Hid (Calls Tryz.prog 75 #[.pointer (some ⟨w.heap.size, 0, none⟩), .int .i64 0, .string ⟨#[47]⟩, .bool false] W0 fun e w' => e = .returned (.tuple #[.int .i64 0, .nilIface]) ∧ Below W0.heap.size W0 w') := fun W0 hfb hbl =>
    hide (wfind_root C w.heap.size g cap L n 0 W0 hn hd (hrow.below (hbl.mono hC)) (Nat.le_trans hC hbl.size) hfb)
  clear hrow hn hd
  go_enter Tryz.func43, Tryz.ntmps43
  go_wp2_with fail
  obtain ⟨W0, hW0⟩ : ∃ W0, w.alloc (.cells #[.slice (some ⟨g, 0, none⟩) L.length cap, .int .i64 0] 134) = W0 := ⟨_, rfl⟩
  rw [hW0]
  have hfb : FB W0 w.heap.size (.slice (some ⟨g, 0, none⟩) L.length cap) 0 := by rw [← hW0]; exact World.alloc_heap_new w _
  have hbl : Below w.heap.size w W0 := by rw [← hW0]; exact (Below.refl _ _).alloc (Nat.le_refl _) _
  clear hW0
  refine (unhide (HF W0 hfb hbl)).mono ?_
  rintro e w1 ⟨rfl, hb1⟩
  have HB := hide (hbl.trans (hb1.mono hbl.size))
  clear HF hb1 hfb hbl
  go_wp2
  go_ret2
  exact ⟨rfl, HB.out⟩
end Go.Proofs.YtfemboojdablhaaGreatDoor.Tre
namespace Go.Proofs.YtfemboojdablhaaGreatDoor.Tre
open Go.RowKit Go.Shelf
theorem init_st {L : List NodeD} {n0 g cap : Nat} {deep : Bool} {mn mx ms : Int} {iv : Value} {b gm ga kb : Nat} {W : World} (h : NewW n0 g L.length cap deep mn mx ms (.func (.func 69) #[] #[.pointer (some ⟨kb, 0, none⟩)]) iv b gm ga W) (hrow : NodeRow n0 W (.slice (some ⟨g, 0, none⟩) L.length cap) L) :
    WSt L ⟨b, ga, gm, g, cap, kb, n0, deep, mn, mx, ms, iv⟩ 0 [] (List.replicate L.length false) (.pointer none) (.slice none 0 0) (.slice none 0 0) 0 W :=
  ⟨h.blk, .inl rfl, World.ownsRow_nil _ _ _ _, fun _ => rfl, ⟨[], World.ownsRow_nil _ _ _ _⟩, h.mea, by
    have := h.abv
    rw [this]
    congr 2
    apply Array.ext'
    simp, by simp, hrow, h.lb, h.la⟩
theorem init_j {n0 g n cap : Nat} {deep : Bool} {mn mx ms : Int} {iv wv : Value} {b gm ga kb kr wb eb : Nat} {W : World} (h : NewW n0 g n cap deep mn mx ms wv iv b gm ga W) (hkb : W.heap[kb]? = some (.cells #[.slice (some ⟨kr, 0, none⟩) 2 2] 97 (0, 0))) (hkr : W.heap[kr]? = some (.cells #[.func (.func 95) #[] #[], .func (.func 70) #[] #[.pointer (some ⟨wb, 0, none⟩), .pointer (some ⟨eb, 0, none⟩)]] 85 (0, 0))) (hpr : PrB W b wb eb) :
    JTrue ⟨b, ga, gm, g, cap, kb, n0, deep, mn, mx, ms, iv⟩ kr wb eb (DS ⟨b, ga, gm, g, cap, kb, n0, deep, mn, mx, ms, iv⟩ (.slice none 0 0) (.slice none 0 0)) (fun _ => False) W := by
  have nd : ∀ {k : Nat} {a : Array Value} {t : TypeId} {y : Nat × Nat}, W.heap[k]? = some (.cells a t y) → t ≠ 91 → t ≠ 4 → ¬ DS ⟨b, ga, gm, g, cap, kb, n0, deep, mn, mx, ms, iv⟩ (.slice none 0 0) (.slice none 0 0) k := by
    rintro k a t y hk h1 h2 (e | e | e | e)
    · have e : k = b := e
      subst e
      exact ty_ne hk h.blk h1
    · have e : k = ga := e
      subst e
      exact ty_ne hk h.abv h2
    · cases e
    · cases e
  exact ⟨hkb, hkr, hpr, nd hkb (by decide) (by decide), nd hkr (by decide) (by decide), nd hpr.w (by decide) (by decide), nd hpr.e (by decide) (by decide), fun _ => id⟩
variable {L : List NodeD} {c : Cf} {nn : Nat} {ab : List Bool} {pv bv tv : Value}
set_option maxRecDepth 100000 in
set_option maxHeartbeats 4000000 in
theorem start_any {K : List ByteArray} {test : Nat → Bool} {J : (Nat → Prop) → (Nat → Prop) → World → Prop} (hA : Asks L c test J) (hK : KInv L K) (E : Nat → Prop) (w : World) (h : GoH L c J 0 0 (visG L c.deep c.mx (L.length + 1) 0 ⟨#[47]⟩ 0).length 0 0 nn [] ab pv bv tv E w) :
    Calls Tryz.prog 25 #[.pointer (some ⟨c.b, 0, none⟩), .string ⟨#[47]⟩] w (WkPost L c test J (visG L c.deep c.mx (L.length + 1) 0 ⟨#[47]⟩ 0) 0 0 0 [] ab bv tv E w) := by
  obtain ⟨n, hn⟩ : ∃ n, L[0]? = some n := ⟨_, List.getElem?_eq_getElem hK.pos⟩
  have hd : dirD n = true := by unfold dirD; rw [(hK.root n hn).2.2]; rfl
  have c0 : w.drew.cell? ⟨c.b, 0, none⟩ = some (.slice (some ⟨c.g, 0, none⟩) L.length c.cap) := h.st.blk.cell 0
  have c1 : w.drew.cell? ⟨c.b, 1, none⟩ = some (.bool false) := h.st.blk.cell 1
  have h0 := h.below hA.stab (Below.refl _ w).drew
  have HF := hide (find_root c.B c.g c.cap L n w.drew hn hd h0.st.row h0.st.Bl)
  have HG : Hid (∀ w1, Below w.drew.heap.size w.drew w1 → Calls Tryz.prog 46 #[.pointer (some ⟨c.b, 0, none⟩), .int .i64 0, .string ⟨#[47]⟩, .int .i64 0] w1 (WkPost L c test J (visG L c.deep c.mx (L.length + 1) 0 ⟨#[47]⟩ 0) 0 0 0 [] ab bv tv E w1)) := fun w1 hb1 =>
    go_all hA hK (L.length + 1) 0 ⟨#[47]⟩ 0 n 0 0 0 nn [] ab pv bv tv E w1 (h0.below hA.stab hb1) ⟨hn, by decide, by decide, by decide, by decide⟩ (by omega)
  clear h h0 hn hd
  go_enter Tryz.func25, Tryz.ntmps25
  go_wp2_with fail
  refine (fun (KEY : ∀ w', Below w.drew.heap.size w.drew w' → (?G : World → Prop) w') => ?main) ?key
  case main =>
    go_region_with (go_at_call 43; refine HF.out.mono ?_; rintro e w6 ⟨rfl, hb6⟩)
    all_goals exact KEY _ hb6
  case key =>
    intro w1 hb1
    have HG1 := hide (HG.out w1 hb1)
    have HB1 : Hid (TurnE (DS c bv tv) E (DS c bv tv) E w w1) := withE ((TurnC.of_below (Below.refl _ w).drew).trans (TurnC.of_below hb1))
    clear hb1
    go_wp2_with fail
    refine HG1.out.mono ?_
    rintro e w4 ⟨rfl, pv4, bv4, tv4, nn4, E4, h4, j4, T4, o4, m4⟩
    have HY := hide (⟨h4, j4, T4, o4, m4⟩ : _ ∧ _ ∧ _ ∧ _ ∧ _)
    clear h4 j4 T4 o4 m4
    go_wp2
    go_end0
    obtain ⟨h4, j4, T4, o4, m4⟩ := HY.out
    exact ⟨rfl, pv4, bv4, tv4, nn4, E4, h4, j4, HB1.out.trans T4, o4, m4⟩
end Go.Proofs.YtfemboojdablhaaGreatDoor.Tre
namespace Go.Proofs.YtfemboojdablhaaGreatDoor.Tre
open Go.RowKit Go.Shelf
variable {L : List NodeD} {c : Cf} {gone nn : Nat} {out : List UInt8} {ab : List Bool} {pv bv tv : Value}
theorem freeze_other {w : World} {g k n : Nat} (h : k ≠ g) : (w.freeze ⟨g, 0, none⟩ n).heap[k]? = w.heap[k]? := by
  unfold World.freeze
  split
  · rfl
  · simp only [Array.getElem?_modify]
    rw [if_neg (fun e => h e.symm)]
theorem Tryz.cells5 : Tryz.prog.cellsOf 5 = 1 := by kernel_rfl
set_option maxRecDepth 100000 in
set_option maxHeartbeats 2000000 in
theorem wstring_any (w : World) (h : WSt L c gone out ab pv bv tv nn w) (hlen : out.length ≤ 1000000000) :
    Calls Tryz.prog 47 #[.pointer (some ⟨c.b, 11, none⟩)] w fun e w' => e = .returned (.string ⟨out.toArray⟩) ∧ (∀ (k : Nat) (a : Array Value) (t : TypeId) (y : Nat × Nat), w.heap[k]? = some (.cells a t y) → t ≠ 5 → w'.heap[k]? = some (.cells a t y)) ∧ Below c.B w w' := by
  have hbk := h.blk
  have c1 : w.drew.cell? ⟨c.b, 12, none⟩ = some bv := h.blk.cell 12
  by_cases h0 : out = []
  · obtain rfl := h.emp h0
    subst h0
    have hUS : ∀ W q, (Builtin.unsafeString_ #[138, 3] 9 #[.pointer q, .int .i64 0]).run Tryz.prog W = .ok (.string .empty) W := fun W q => Lib.run_unsafeString_none W _ _ _ q
    have hSD : ∀ W : World, (Builtin.unsafeSliceData_ #[87] 138 #[.slice none 0 0]).run Tryz.prog W = .ok (.pointer none) W := fun W => rfl
    clear h hbk
    go_enter Tryz.func47, Tryz.ntmps47
    go_wp2
    go_region
    all_goals (go_wp2; go_ret; exact ⟨rfl, fun _ _ _ _ hk _ => hk, Below.drew (Below.refl _ w)⟩)
  · have hl0 : out.length ≠ 0 := by simpa using h0
    have hown := h.buf
    obtain ⟨g, cap, cur, rfl, hbg, hg, hnc, hcm, hcs, htake⟩ : ∃ g cap cur, bv = .slice (some ⟨g, 0, none⟩) out.length cap ∧ c.B ≤ g ∧ w.heap[g]? = some (.cells cur 5 (0, 0)) ∧ out.length ≤ cap ∧ cap ≤ maxLen ∧ cur.size = cap * 1 ∧ cur.toList.take (out.length * 1) = Lib.byteCells out := by
      rcases hown.2 with ⟨_, hz⟩ | ⟨g, cap, cur, hv, r⟩
      · exact absurd hz hl0
      · exact ⟨g, cap, cur, hv, r⟩
    have hSD : (Builtin.unsafeSliceData_ #[87] 138 #[.slice (some ⟨g, 0, none⟩) out.length cap]).run Tryz.prog w.drew = .ok (.pointer (some ⟨g, 0, none⟩)) w.drew := Lib.run_unsafeSliceData_row _ _ _ _ _ _ (by omega)
    have hUS : (Builtin.unsafeString_ #[138, 3] 9 #[.pointer (some ⟨g, 0, none⟩), .int .i64 out.length]).run Tryz.prog w.drew = .ok (.string ⟨out.toArray⟩) (w.drew.freeze ⟨g, 0, none⟩ out.length) := by
      refine Lib.run_unsafeString_row w.drew 138 3 9 5 Tryz.underlying138 Tryz.cells5 g cur.size (by have hg' : w.drew.heap[g]? = some (.cells cur 5 (0, 0)) := hg; simp [World.shape?, hg']) out h0 (by omega) (by omega) ?_
      intro j x hx
      have := hown.cells (g := g) rfl j (.int .u8 x.toNat) (by simp [Lib.byteCells, hx])
      exact this
    have hne : ∀ (k : Nat) (a : Array Value) (t : TypeId) (y : Nat × Nat), w.heap[k]? = some (.cells a t y) → t ≠ 5 → k ≠ g := fun k a t y hk ht e => ty_ne (e ▸ hk) hg ht
    clear h hbk hown hg htake
    go_enter Tryz.func47, Tryz.ntmps47
    go_wp2
    go_region
    all_goals (go_wp2; go_ret; exact ⟨rfl, fun k a t y hk ht => (freeze_other (w := w.drew) (hne k a t y hk ht)).trans hk, Lib.below_freeze (Below.drew (Below.refl _ w)) (p := ⟨g, 0, none⟩) hbg _⟩)
end Go.Proofs.YtfemboojdablhaaGreatDoor.Tre
namespace Go.Proofs.YtfemboojdablhaaGreatDoor.Tre
open Go.RowKit Go.Shelf
variable {L : List NodeD} {c : Cf} {gone nn : Nat} {out : List UInt8} {ab : List Bool} {pv bv tv : Value}
set_option maxRecDepth 100000 in
set_option maxHeartbeats 4000000 in
theorem result_any (w : World) (h : WSt L c gone out ab pv bv tv nn w) (hlen : out.length ≤ 1000000000) :
    Calls Tryz.prog 26 #[.pointer (some ⟨c.b, 0, none⟩)] w fun e w' => ∃ st : Int, e = .returned (.agg #[.string ⟨out.toArray⟩, tv, .int .i64 st]) ∧ Below c.B w w' := by
  obtain ⟨ts, hts⟩ := h.nts
  obtain ⟨ta, tc, rfl⟩ : ∃ ta tc, tv = .slice ta nn tc := by
    rcases hts.2 with ⟨e, e2⟩ | ⟨g, cap, cur, e, _⟩
    · exact ⟨none, 0, by rw [e, e2]⟩
    · exact ⟨_, _, e⟩
  obtain ⟨W0, hW0⟩ : ∃ W0, w.alloc (.cells #[.string ⟨#[]⟩, .slice none 0 0, .int .i64 0] 27) = W0 := ⟨_, rfl⟩
  have hb0 : Below w.heap.size w W0 := by rw [← hW0]; exact (Below.refl _ _).alloc (Nat.le_refl _) _
  have h0 := h.below hb0
  have hx0 : W0.heap[w.heap.size]? = some (.cells #[.string ⟨#[]⟩, .slice none 0 0, .int .i64 0] 27 (0, 0)) := by rw [← hW0]; exact World.alloc_heap_new w _
  have c0 : W0.cell? ⟨c.b, 13, none⟩ = some (.slice ta nn tc) := h0.blk.cell 13
  have hbl : c.b < W0.heap.size := h0.blk.lt
  have HS : ∀ W1, Below W0.heap.size W0 W1 → Hid (Calls Tryz.prog 47 #[.pointer (some ⟨c.b, 11, none⟩)] W1 fun e w' => e = .returned (.string ⟨out.toArray⟩) ∧ (∀ (k : Nat) (a : Array Value) (t : TypeId) (y : Nat × Nat), W1.heap[k]? = some (.cells a t y) → t ≠ 5 → w'.heap[k]? = some (.cells a t y)) ∧ Below c.B W1 w') := fun W1 hb => wstring_any W1 (h0.below hb) hlen
  have HW0 := hide hW0
  have HP := hide (⟨h, hb0, hx0, h0⟩ : _ ∧ _ ∧ _ ∧ _)
  clear h h0 hb0 hx0 hW0 hts
  go_enter Tryz.func26, Tryz.ntmps26
  go_upto_region 1 with (rw [HW0.out])
  have HC : Hid (∀ X, Below W0.heap.size W0 X → WkC X c L.length gone pv bv (.slice ta nn tc)) := fun X hX => (hX.block c.b hbl).trans HP.out.2.2.2.blk
  go_cut [3] from 4 (fun v wx => ∃ rb, v = .pointer (some ⟨rb, 0, none⟩) ∧ wx.heap[rb]? = some (.cells #[.string ⟨out.toArray⟩, .slice ta nn tc, .int .i64 0] 27 (0, 0)) ∧ WkC wx c L.length gone pv bv (.slice ta nn tc) ∧ wx.heap[w.heap.size]? = some (.cells #[.string ⟨#[]⟩, .slice none 0 0, .int .i64 0] 27 (0, 0)) ∧ rb ≠ w.heap.size ∧ c.B ≤ rb ∧ Below c.B W0 wx)
  case first =>
    have hne1 : c.b ≠ W0.heap.size := by omega
    have hne2 : W0.heap.size ≠ c.b := by omega
    go_region_held3 (fun w' => w'.cell? ⟨c.b, 13, none⟩ = some (.slice ta nn tc)) (go_keep) (first | (go_at_call 47; refine (HS _ (by repeat first | exact Below.refl _ _ | refine Below.drew ?_ | refine Below.alloc ?_ (by first | omega | (simp; done) | (simp; omega)) _)).out.mono ?_; rintro e w6 ⟨rfl, hk6, hb6⟩; have hblk6 := hk6 _ _ _ _ (HC.out _ (by repeat first | exact Below.refl _ _ | refine Below.drew ?_ | refine Below.alloc ?_ (by first | omega | (simp; done) | (simp; omega)) _)) (by decide); have s0 : w6.cell? ⟨c.b, 13, none⟩ = some (.slice ta nn tc) := (by rw [Lib.cell_of_heap hblk6]; rfl); first | (have hz6 := hk6 W0.heap.size #[.string ⟨#[]⟩, .slice none 0 0, .int .i64 0] 27 (0, 0) (World.alloc_heap_new W0 _) (by decide); have r0 : w6.cell? ⟨W0.heap.size, 0, none⟩ = some (.string ⟨#[]⟩) := (by rw [Lib.cell_of_heap hz6]; rfl); have r1 : w6.cell? ⟨W0.heap.size, 1, none⟩ = some (.slice none 0 0) := (by rw [Lib.cell_of_heap hz6]; rfl); have r2 : w6.cell? ⟨W0.heap.size, 2, none⟩ = some (.int .i64 0) := (by rw [Lib.cell_of_heap hz6]; rfl); have f0 := Lib.frozen_of_heap hz6 0; have f1 := Lib.frozen_of_heap hz6 1; have f2 := Lib.frozen_of_heap hz6 2) | skip))
    all_goals go_wp2
    all_goals go_meet
    · obtain ⟨h, hb0, hx0, h0⟩ := HP.out
      have hx6 := hk6 _ _ _ _ hx0 (by decide)
      have l1 := (Array.getElem?_eq_some_iff.1 hblk6).1
      have l2 := (Array.getElem?_eq_some_iff.1 hx6).1
      have lb := h.bB
      exact ⟨_, rfl, World.alloc_heap_new w6 _, (Below.heap_alloc _ _ _ l1).trans hblk6, (Below.heap_alloc _ _ _ l2).trans hx6, by omega, by omega, ((Below.refl _ W0).drew.trans hb6).alloc (by omega) _⟩
    · obtain ⟨h, hb0, hx0, h0⟩ := HP.out
      have l2 := (Array.getElem?_eq_some_iff.1 hx0).1
      have hx6 := hk6 _ _ _ _ ((Below.heap_alloc W0 _ _ l2).trans hx0) (by decide)
      have lb := h.bB
      have l3 := hb0.size
      have l4 := h.Bl
      refine ⟨_, rfl, wset_block (wset_block (wset_block hz6)), (wset_other hne1).trans ((wset_other hne1).trans ((wset_other hne1).trans hblk6)), (wset_other (by omega)).trans ((wset_other (by omega)).trans ((wset_other (by omega)).trans hx6)), by omega, by omega, ?_⟩
      refine (((Below.trans ?_ hb6).setCell (p := ⟨W0.heap.size, 0, none⟩) (by show c.B ≤ W0.heap.size; omega) _).setCell (p := ⟨W0.heap.size, 1, none⟩) (by show c.B ≤ W0.heap.size; omega) _).setCell (p := ⟨W0.heap.size, 2, none⟩) (by show c.B ≤ W0.heap.size; omega) _
      exact ((Below.refl _ W0).alloc (by omega) _).drew
  case rest =>
    obtain ⟨rb, rfl, hrb, hbk, hres, hne, hrB, hb1⟩ := hcut
    obtain ⟨h, hb0, hx0, h0⟩ := HP.out
    have c1 : wc.cell? ⟨c.b, 13, none⟩ = some (.slice ta nn tc) := hbk.cell 13
    have r0 : wc.cell? ⟨rb, 0, none⟩ = some (.string ⟨out.toArray⟩) := by rw [Lib.cell_of_heap hrb]; rfl
    have r1 : wc.cell? ⟨rb, 1, none⟩ = some (.slice ta nn tc) := by rw [Lib.cell_of_heap hrb]; rfl
    have r2 : wc.cell? ⟨rb, 2, none⟩ = some (.int .i64 0) := by rw [Lib.cell_of_heap hrb]; rfl
    have q2 : wc.frozen? ⟨rb, 2, none⟩ = false := Lib.frozen_of_heap hrb 2
    have z0 : wc.cell? ⟨w.heap.size, 0, none⟩ = some (.string ⟨#[]⟩) := by rw [Lib.cell_of_heap hres]; rfl
    have z1 : wc.cell? ⟨w.heap.size, 1, none⟩ = some (.slice none 0 0) := by rw [Lib.cell_of_heap hres]; rfl
    have z2 : wc.cell? ⟨w.heap.size, 2, none⟩ = some (.int .i64 0) := by rw [Lib.cell_of_heap hres]; rfl
    have y0 := Lib.frozen_of_heap hres 0
    have y1 := Lib.frozen_of_heap hres 1
    have y2 := Lib.frozen_of_heap hres 2
    have hne' : w.heap.size ≠ rb := fun e => hne e.symm
    have l4 := h.Bl
    have HB : Hid (Below c.B w wc) := (hb0.mono l4).trans hb1
    clear h hb0 hx0 h0 hbk hrb hres hb1
    by_cases hnn : 0 < nn
    · have b1 : decide ((0 : Int) < (nn : Int)) = true := by rw [decide_eq_true_eq]; omega
      go_wp2
      refine bodyPost_ret (v := .agg #[.string ⟨out.toArray⟩, .slice ta nn tc, .int .i64 1]) (by simp [results, Tryz.results26, go_sem, z0, z1, z2]) rfl ⟨1, rfl, ?_⟩
      repeat first | exact HB.out | refine Below.drew ?_ | refine Below.setCell ?_ (by first | exact hrB | exact l4) _
    · have b1 : decide ((0 : Int) < (nn : Int)) = false := by rw [decide_eq_false_iff_not]; omega
      go_wp2
      refine bodyPost_ret (v := .agg #[.string ⟨out.toArray⟩, .slice ta nn tc, .int .i64 0]) (by simp [results, Tryz.results26, go_sem, z0, z1, z2]) rfl ⟨0, rfl, ?_⟩
      repeat first | exact HB.out | refine Below.drew ?_ | refine Below.setCell ?_ (by first | exact hrB | exact l4) _
end Go.Proofs.YtfemboojdablhaaGreatDoor.Tre
namespace Go.Proofs.YtfemboojdablhaaGreatDoor.Tre
open Go.RowKit Go.Shelf
set_option maxRecDepth 100000 in
set_option maxHeartbeats 1000000 in
theorem inRange_any (deep : Bool) (mn mx ms : Int) (w : World) (h1 : 0 ≤ mn) (h2 : 0 ≤ mx) (h3 : 0 ≤ ms) (h4 : ms ≤ 100000) :
    Calls Tryz.prog 21 #[optV deep mn mx ms] w fun e w' => e = .returned (.bool true) ∧ Below w.heap.size w w' := by
  have b1 : decide ((0 : Int) ≤ mn) = true := decide_eq_true h1
  have b2 : decide ((0 : Int) ≤ mx) = true := decide_eq_true h2
  have b3 : decide ((0 : Int) ≤ ms) = true := decide_eq_true h3
  have b4 : decide (ms ≤ (100000 : Int)) = true := decide_eq_true h4
  go_enter Tryz.func21, Tryz.ntmps21
  go_wp2
  go_ret
  exact ⟨rfl, (Below.refl _ _).alloc (Nat.le_refl _) _⟩
theorem num_any (x : Int) (w : World) : Calls Tryz.prog 10 #[.int .i64 x] w fun e w' => e = .returned (.int .i64 x) ∧ w' = w := by
  go_enter Tryz.func10, Tryz.ntmps10
  go_wp2
  go_ret
  exact ⟨rfl, rfl⟩
set_option maxRecDepth 100000 in
set_option maxHeartbeats 1000000 in
theorem wcatch_idle (a b d : Nat) (w : World) :
    CallsD Tryz.prog 23 #[.pointer (some ⟨a, 0, none⟩), .pointer (some ⟨b, 0, none⟩), .pointer (some ⟨d, 0, none⟩)] .returning w fun e u' w' => e = .returned (.tuple #[]) ∧ u' = .returning ∧ w' = w := by
  refine callsD_of_wpS Tryz.func23 rfl fun c₀ cs hu => ?_
  apply wpS_seq
  apply wpS_region
  simp [wpOpsS, go_sem, recoverD, hu, Tryz.ntmps23, Exit.thenS]
  refine wpS_of_wp ?_
  change Code.wp Tryz.prog _ _ { tmps := #[.pointer (some ⟨a, 0, none⟩), .pointer (some ⟨b, 0, none⟩), .pointer (some ⟨d, 0, none⟩), .nilIface, .nilIface, undef, undef, undef, undef, undef, undef, undef, undef], defers := [] } w
  go_wp2
  cases c₀
  simp_all [bodyPostS, results, Tryz.results23]
end Go.Proofs.YtfemboojdablhaaGreatDoor.Tre
