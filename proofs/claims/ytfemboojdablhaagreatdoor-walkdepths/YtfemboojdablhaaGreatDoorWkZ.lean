/- Walk: the law WalkDepths, its walk. -/
import Derived.Test.YtfemboojdablhaaGreatDoorWkZa
namespace Go.Proofs.YtfemboojdablhaaGreatDoor.Tre
open Go.RowKit Go.Shelf

theorem anew {w : World} {o : Obj} {k : Nat} (hk : k = w.heap.size) : (w.alloc o).heap[k]? = some o := by
  subst hk
  exact World.alloc_heap_new w o
theorem cell_new3 (w : World) (v0 v1 v2 : Value) (t : TypeId) : (w.alloc (.cells #[v0, v1, v2] t)).cell? ⟨w.heap.size, 0, none⟩ = some v0 := by
  rw [Lib.cell_of_heap (World.alloc_heap_new w _)]; rfl
theorem cell_set3 {w : World} {b : Nat} {u0 u1 u2 : Value} {t : TypeId} {y : Nat × Nat} (h : w.heap[b]? = some (.cells #[u0, u1, u2] t y)) (v0 v1 v2 : Value) : (((w.setCell ⟨b, 0, none⟩ v0).setCell ⟨b, 1, none⟩ v1).setCell ⟨b, 2, none⟩ v2).cell? ⟨b, 0, none⟩ = some v0 := by
  have h1 := wset_block (i := 0) (v := v0) h
  have h2 := wset_block (i := 1) (v := v1) h1
  have h3 := wset_block (i := 2) (v := v2) h2
  rw [Lib.cell_of_heap h3]; rfl
/-- What a walk from the root is asked with: the nodes' row may lie anywhere. -/
theorem walk_at {K : List ByteArray} (L : List NodeD) (hK : KInv L K) (deep : Bool) (mn mx : Int) (h1 : 0 ≤ mn) (h2 : 0 ≤ mx) (hvl : (visG L deep mx (L.length + 1) 0 ⟨#[47]⟩ 0).length ≤ 1000) (g cap gs : Nat) (w6 w : World)
    (hrow : NodeRow w6.heap.size w6 (.slice (some ⟨g, 0, none⟩) L.length cap) L) (hb : Below w6.heap.size w6 w) (hgs : w.heap[gs]? = some (.cells #[.string ⟨#[47]⟩] 9 (0, 0))) :
    Calls Tryz.prog 8 #[.slice (some ⟨g, 0, none⟩) L.length cap, .slice (some ⟨gs, 0, none⟩) 1 1, trueV, optV deep mn mx 1000] w fun e w' => ∃ (ta : Option Addr) (tn tc : Nat) (st : Int), e = .returned (.tuple #[.agg #[.string ⟨(outW mn (fun _ => true) (visG L deep mx (L.length + 1) 0 ⟨#[47]⟩ 0)).toArray⟩, .slice ta tn tc, .int .i64 st], .int .i64 0]) ∧ Below w.heap.size w w' :=
  walk_true L hK g cap gs deep mn mx w h1 h2 (node_mono (hrow.below hb) hb.size) hgs hvl
theorem vis_fewer {L : List NodeD} {K : List ByteArray} (h : KInv L K) (mx : Int) (hmx : 0 ≤ mx) : (visG L false mx (L.length + 1) 0 ⟨#[47]⟩ 0).length ≤ L.length := by
  have hr := vis_r h false 1000 (L.length + 1)
  have hvm := vis_max (L := L) (mx := mx) (my := 1000) (L.length + 1) 0 ⟨#[47]⟩ 0 hmx (fun v hv => by
    obtain ⟨_, e, hn⟩ := hr.at_ v hv
    rw [e]; exact dep_mx h _ hn)
  rw [hvm]
  exact Nat.le_trans (List.length_filter_le _ _) (once_r h false).2.2.2.2.1

set_option maxRecDepth 100000 in
set_option maxHeartbeats 16000000 in
theorem depths_any (s : ByteArray) (mn mx : Int) (w : World) (hs : s.size ≤ maxLen) :
    Calls Tryz.prog 5 #[.string s, .int .i64 mn, .int .i64 mx] w fun e w' => e = .returned (.bool true) ∧ Below w.heap.size w w' := by
  have HLO := hide (refload_any s w hs)
  clear hs
  go_enter Tryz.func5, Tryz.ntmps5
  go_wp2_with fail
  refine (unhide HLO).mono ?_
  rintro e w1 ⟨v, lk, rfl, hown, hsrt, hb1⟩
  obtain ⟨L, hL⟩ : ∃ L, lk.map (·.1) = L := ⟨_, rfl⟩
  have hrow := hown.row
  rw [hL] at hsrt hrow
  have htold := loadD_told s
  obtain ⟨er, her⟩ : ∃ er, (loadD s).2.1 = er := ⟨_, rfl⟩
  obtain ⟨pl, hpl⟩ : ∃ pl, (loadD s).2.2 = pl := ⟨_, rfl⟩
  obtain ⟨va, vc, rfl⟩ := hrow.form
  by_cases hok : er = 0 ∧ 0 ≤ mn ∧ 0 ≤ mx
  · obtain ⟨rfl, hmn, hmx⟩ := hok
    rcases htold with ⟨he, ⟨K, hK0⟩, _⟩ | ⟨_, he⟩
    · rw [her, hpl]
      have hK : KInv L K := kinv_srt hK0 hsrt
      have hlen := hK.lim
      have hpos := hK.pos
      have i1 : decide (mn < 0) = false := by rw [decide_eq_false_iff_not]; omega
      have i2 : decide (mx < 0) = false := by rw [decide_eq_false_iff_not]; omega
      obtain ⟨W1, hW1⟩ : ∃ W1, w1.alloc (.cells #[.string ⟨#[45, 116, 114, 117, 101]⟩, .string ⟨#[]⟩, .int .i64 0, .int .i64 0, .slice none 0 0] 35) = W1 := ⟨_, rfl⟩
      have hbW1 : Below w1.heap.size w1 W1 := by rw [← hW1]; exact (Below.refl _ _).alloc (Nat.le_refl _) _
      have hzW1 : W1.heap.size = w1.heap.size + 1 := by rw [← hW1]; simp
      have hhW1 : W1.heap[w1.heap.size]? = some (.cells #[.string ⟨#[45, 116, 114, 117, 101]⟩, .string ⟨#[]⟩, .int .i64 0, .int .i64 0, .slice none 0 0] 35 (0, 0)) := by rw [← hW1]; exact World.alloc_heap_new w1 _
      obtain ⟨tb, htb⟩ : ∃ tb, w1.heap.size = tb := ⟨_, rfl⟩
      have HK := hide hK
      have HROW := hide hrow
      have HB := hide (hb1.trans (hbW1.mono hb1.size))
      have HBW := hide hbW1
      have HHW := hide hhW1
      have HWW1 := hide hW1
      have HZW := hide hzW1
      clear hown hsrt hK0 hK hrow hb1 hL HLO he hpl hbW1 hhW1 hW1 hzW1 her
      obtain ⟨x1, hx1⟩ : ∃ x1, (⟨(outW 0 (fun _ => true) (visG L false 1000 (L.length + 1) 0 ⟨#[47]⟩ 0)).toArray⟩ : ByteArray) = x1 := ⟨_, rfl⟩
      have HX1 := hide hx1
      obtain ⟨x2, hx2⟩ : ∃ x2, (⟨(outW mn (fun _ => true) (visG L false mx (L.length + 1) 0 ⟨#[47]⟩ 0)).toArray⟩ : ByteArray) = x2 := ⟨_, rfl⟩
      have HX2 := hide hx2
      have HKL : Hid (∀ (i : Nat) (n : NodeD), L[i]? = some n → n.kids.length ≤ 1000) := hide (fun i n h => Nat.le_trans (HK.out.klen i n h) (by omega))
      have z1 : w1.heap.size ≤ W1.heap.size := HBW.out.size
      have htl : tb < W1.heap.size := by have := HZW.out; omega
      clear hx1 hx2
      have HN : Hid (∀ X, Below W1.heap.size W1 X → Calls Tryz.prog 9 #[.slice va L.length vc] X fun e w' => ∃ g cap, e = .returned (.slice (some ⟨g, 0, none⟩) L.length cap) ∧ NodeRow w'.heap.size w' (.slice (some ⟨g, 0, none⟩) L.length cap) L ∧ Below X.heap.size X w') := hide (by
        intro X hX
        refine (nodes_any w1.heap.size _ L X hlen HKL.out (HROW.out.below (HBW.out.trans (hX.mono z1))) (Nat.le_trans z1 hX.size)).mono ?_
        rintro e w2 ⟨v2, l2, rfl, hown2, hmap, hb2⟩
        have hrow2 := hown2.row
        rw [hmap] at hrow2
        rcases hrow2 with ⟨_, e⟩ | ⟨g, cap, rfl, h⟩
        · rw [e] at hpos; exact absurd hpos (by simp)
        · exact ⟨g, cap, rfl, .inr ⟨g, cap, rfl, h⟩, hb2⟩)
      have HC : Hid (∀ X, Below W1.heap.size W1 X → X.cell? ⟨tb, 0, none⟩ = some (.string ⟨#[45, 116, 114, 117, 101]⟩) ∧ X.cell? ⟨tb, 1, none⟩ = some (.string ⟨#[]⟩) ∧ X.cell? ⟨tb, 2, none⟩ = some (.int .i64 0) ∧ X.cell? ⟨tb, 3, none⟩ = some (.int .i64 0) ∧ X.cell? ⟨tb, 4, none⟩ = some (.slice none 0 0)) := hide (by
        intro X hX
        have hh := (hX.block w1.heap.size (by omega)).trans HHW.out
        rw [htb] at hh
        exact ⟨by rw [Lib.cell_of_heap hh]; rfl, by rw [Lib.cell_of_heap hh]; rfl, by rw [Lib.cell_of_heap hh]; rfl, by rw [Lib.cell_of_heap hh]; rfl, by rw [Lib.cell_of_heap hh]; rfl⟩)
      have HW8 : Hid (∀ (w6 X : World) (g cap gs : Nat), NodeRow w6.heap.size w6 (.slice (some ⟨g, 0, none⟩) L.length cap) L → Below w6.heap.size w6 X → X.heap[gs]? = some (.cells #[.string ⟨#[47]⟩] 9 (0, 0)) → Calls Tryz.prog 8 #[.slice (some ⟨g, 0, none⟩) L.length cap, .slice (some ⟨gs, 0, none⟩) 1 1, trueV, optV false 0 1000 1000] X fun e w' => ∃ (ta : Option Addr) (tn tc : Nat) (st : Int), e = .returned (.tuple #[.agg #[.string x1, .slice ta tn tc, .int .i64 st], .int .i64 0]) ∧ Below X.heap.size X w') := hide (by
        intro w6 X g cap gs h1 h2 h3
        have := walk_at L HK.out false 0 1000 (by decide) (by decide) (by have := (once_r HK.out false).2.2.2.2.1; omega) g cap gs w6 X h1 h2 h3
        rw [HX1.out] at this
        exact this)
      have HW9 : Hid (∀ (w6 X : World) (g cap gs : Nat), NodeRow w6.heap.size w6 (.slice (some ⟨g, 0, none⟩) L.length cap) L → Below w6.heap.size w6 X → X.heap[gs]? = some (.cells #[.string ⟨#[47]⟩] 9 (0, 0)) → Calls Tryz.prog 8 #[.slice (some ⟨g, 0, none⟩) L.length cap, .slice (some ⟨gs, 0, none⟩) 1 1, trueV, optV false mn mx 1000] X fun e w' => ∃ (ta : Option Addr) (tn tc : Nat) (st : Int), e = .returned (.tuple #[.agg #[.string x2, .slice ta tn tc, .int .i64 st], .int .i64 0]) ∧ Below X.heap.size X w') := hide (by
        intro w6 X g cap gs h1 h2 h3
        have := walk_at L HK.out false mn mx hmn hmx (by have := vis_fewer HK.out mx hmx; omega) g cap gs w6 X h1 h2 h3
        rw [HX2.out] at this
        exact this)
      have HNB := HN
      have HCB := HC
      go_upto_region 5 with (rw [HWW1.out])
      go_cut [11, 12] from 19 (fun v11 v12 wx => ∃ b : Nat, v11 = .pointer (some ⟨b, 0, none⟩) ∧ v12 = .int .i64 0 ∧ W1.heap.size ≤ b ∧ wx.cell? ⟨b, 0, none⟩ = some (.string x1) ∧ Below W1.heap.size W1 wx)
      case first =>
        obtain ⟨o0, o1, o2, o3, o4⟩ := HCB.out W1 (Below.refl _ _)
        have n1 : W1.heap.size ≠ tb := by omega
        have n2 : W1.heap.size + 1 ≠ tb := by omega
        go_region_held3 (fun w' => w'.cell? ⟨tb, 0, none⟩ = some (.string ⟨#[45, 116, 114, 117, 101]⟩) ∧ w'.cell? ⟨tb, 1, none⟩ = some (.string ⟨#[]⟩) ∧ w'.cell? ⟨tb, 2, none⟩ = some (.int .i64 0) ∧ w'.cell? ⟨tb, 3, none⟩ = some (.int .i64 0) ∧ w'.cell? ⟨tb, 4, none⟩ = some (.slice none 0 0)) (go_keep) (first
          | (go_at_call 9
             refine (HNB.out _ (by repeat first | exact Below.refl _ _ | refine Below.drew ?_ | refine Below.alloc ?_ (by first | omega | (simp; done) | (simp; omega)) _)).mono ?_
             rintro e w6 ⟨g, cap, rfl, hr6, hb6⟩
             have hbX : Below W1.heap.size W1 w6 := Below.trans (by repeat first | exact Below.refl _ _ | refine Below.drew ?_ | refine Below.alloc ?_ (by first | omega | (simp; done) | (simp; omega)) _) (hb6.mono (by first | omega | (simp; done) | (simp; omega)))
             have hz6 := hb6.size
             try simp at hz6
             have hzX := hbX.size
             have n3 : w6.heap.size ≠ tb := by omega
             have n4 : w6.heap.size + 1 ≠ tb := by omega
             obtain ⟨q0, q1, q2, q3, q4⟩ := HCB.out w6 hbX)
          | (go_at_call 8
             refine (HW8.out w6 _ _ _ _ hr6 (by repeat first | exact Below.refl _ _ | refine Below.drew ?_ | refine Below.alloc ?_ (by first | omega | (simp; done) | (simp; omega)) _) (by first | exact World.alloc_heap_new _ _ | exact anew (by first | omega | (simp; done) | (simp; omega)) | exact (Below.heap_alloc _ _ _ (by first | omega | (simp; done) | (simp; omega))).trans (by first | exact World.alloc_heap_new _ _ | exact anew (by first | omega | (simp; done) | (simp; omega))) | exact (hb6.block _ (by first | omega | (simp; done) | (simp; omega))).trans (by first | exact World.alloc_heap_new _ _ | exact anew (by first | omega | (simp; done) | (simp; omega))) | exact (hb6.block _ (by first | omega | (simp; done) | (simp; omega))).trans ((Below.heap_alloc _ _ _ (by first | omega | (simp; done) | (simp; omega))).trans (by first | exact World.alloc_heap_new _ _ | exact anew (by first | omega | (simp; done) | (simp; omega)))) | exact (Below.heap_alloc _ _ _ (by first | omega | (simp; done) | (simp; omega))).trans ((hb6.block _ (by first | omega | (simp; done) | (simp; omega))).trans (by first | exact World.alloc_heap_new _ _ | exact anew (by first | omega | (simp; done) | (simp; omega)))) | exact (Below.heap_alloc _ _ _ (by first | omega | (simp; done) | (simp; omega))).trans ((hb6.block _ (by first | omega | (simp; done) | (simp; omega))).trans ((Below.heap_alloc _ _ _ (by first | omega | (simp; done) | (simp; omega))).trans (by first | exact World.alloc_heap_new _ _ | exact anew (by first | omega | (simp; done) | (simp; omega))))))).mono ?_
             rintro e w7 ⟨ta, tn, tc, st, rfl, hb7⟩
             have hb67 : Below w6.heap.size w6 w7 := Below.trans (by repeat first | exact Below.refl _ _ | refine Below.drew ?_ | refine Below.alloc ?_ (by first | omega | (simp; done) | (simp; omega)) _) (hb7.mono (by first | omega | (simp; done) | (simp; omega)))
             have hbY : Below W1.heap.size W1 w7 := hbX.trans (hb67.mono (by first | omega | (simp; done) | (simp; omega)))
             have hz7 := hb7.size
             try simp at hz7
             have hzY := hbY.size
             have n5 : w7.heap.size ≠ tb := by omega
             obtain ⟨r0, r1, r2, r3, r4⟩ := HCB.out w7 hbY
             first
             | (
               have hD : w7.heap[W1.heap.size]? = some (.cells #[.string ⟨#[]⟩, .slice none 0 0, .int .i64 0] 27 (0, 0)) := (hb7.block _ (by first | omega | (simp; done) | (simp; omega))).trans (by first | exact World.alloc_heap_new _ _ | exact anew (by first | omega | (simp; done) | (simp; omega)) | exact (Below.heap_alloc _ _ _ (by first | omega | (simp; done) | (simp; omega))).trans (by first | exact World.alloc_heap_new _ _ | exact anew (by first | omega | (simp; done) | (simp; omega))) | exact (hb6.block _ (by first | omega | (simp; done) | (simp; omega))).trans (by first | exact World.alloc_heap_new _ _ | exact anew (by first | omega | (simp; done) | (simp; omega))) | exact (hb6.block _ (by first | omega | (simp; done) | (simp; omega))).trans ((Below.heap_alloc _ _ _ (by first | omega | (simp; done) | (simp; omega))).trans (by first | exact World.alloc_heap_new _ _ | exact anew (by first | omega | (simp; done) | (simp; omega)))) | exact (Below.heap_alloc _ _ _ (by first | omega | (simp; done) | (simp; omega))).trans ((hb6.block _ (by first | omega | (simp; done) | (simp; omega))).trans (by first | exact World.alloc_heap_new _ _ | exact anew (by first | omega | (simp; done) | (simp; omega)))) | exact (Below.heap_alloc _ _ _ (by first | omega | (simp; done) | (simp; omega))).trans ((hb6.block _ (by first | omega | (simp; done) | (simp; omega))).trans ((Below.heap_alloc _ _ _ (by first | omega | (simp; done) | (simp; omega))).trans (by first | exact World.alloc_heap_new _ _ | exact anew (by first | omega | (simp; done) | (simp; omega))))))
               have d0 : w7.cell? ⟨W1.heap.size, 0, none⟩ = some (.string ⟨#[]⟩) := by rw [Lib.cell_of_heap hD]; rfl
               have d1 : w7.cell? ⟨W1.heap.size, 1, none⟩ = some (.slice none 0 0) := by rw [Lib.cell_of_heap hD]; rfl
               have d2 : w7.cell? ⟨W1.heap.size, 2, none⟩ = some (.int .i64 0) := by rw [Lib.cell_of_heap hD]; rfl
               have e0 := Lib.frozen_of_heap hD 0
               have e1 := Lib.frozen_of_heap hD 1
               have e2 := Lib.frozen_of_heap hD 2)
             | (
               have hD : w7.heap[(W1.heap.size + 1)]? = some (.cells #[.string ⟨#[]⟩, .slice none 0 0, .int .i64 0] 27 (0, 0)) := (hb7.block _ (by first | omega | (simp; done) | (simp; omega))).trans (by first | exact World.alloc_heap_new _ _ | exact anew (by first | omega | (simp; done) | (simp; omega)) | exact (Below.heap_alloc _ _ _ (by first | omega | (simp; done) | (simp; omega))).trans (by first | exact World.alloc_heap_new _ _ | exact anew (by first | omega | (simp; done) | (simp; omega))) | exact (hb6.block _ (by first | omega | (simp; done) | (simp; omega))).trans (by first | exact World.alloc_heap_new _ _ | exact anew (by first | omega | (simp; done) | (simp; omega))) | exact (hb6.block _ (by first | omega | (simp; done) | (simp; omega))).trans ((Below.heap_alloc _ _ _ (by first | omega | (simp; done) | (simp; omega))).trans (by first | exact World.alloc_heap_new _ _ | exact anew (by first | omega | (simp; done) | (simp; omega)))) | exact (Below.heap_alloc _ _ _ (by first | omega | (simp; done) | (simp; omega))).trans ((hb6.block _ (by first | omega | (simp; done) | (simp; omega))).trans (by first | exact World.alloc_heap_new _ _ | exact anew (by first | omega | (simp; done) | (simp; omega)))) | exact (Below.heap_alloc _ _ _ (by first | omega | (simp; done) | (simp; omega))).trans ((hb6.block _ (by first | omega | (simp; done) | (simp; omega))).trans ((Below.heap_alloc _ _ _ (by first | omega | (simp; done) | (simp; omega))).trans (by first | exact World.alloc_heap_new _ _ | exact anew (by first | omega | (simp; done) | (simp; omega))))))
               have d0 : w7.cell? ⟨(W1.heap.size + 1), 0, none⟩ = some (.string ⟨#[]⟩) := by rw [Lib.cell_of_heap hD]; rfl
               have d1 : w7.cell? ⟨(W1.heap.size + 1), 1, none⟩ = some (.slice none 0 0) := by rw [Lib.cell_of_heap hD]; rfl
               have d2 : w7.cell? ⟨(W1.heap.size + 1), 2, none⟩ = some (.int .i64 0) := by rw [Lib.cell_of_heap hD]; rfl
               have e0 := Lib.frozen_of_heap hD 0
               have e1 := Lib.frozen_of_heap hD 1
               have e2 := Lib.frozen_of_heap hD 2)
             | (
               have hD : w7.heap[w6.heap.size]? = some (.cells #[.string ⟨#[]⟩, .slice none 0 0, .int .i64 0] 27 (0, 0)) := (hb7.block _ (by first | omega | (simp; done) | (simp; omega))).trans (by first | exact World.alloc_heap_new _ _ | exact anew (by first | omega | (simp; done) | (simp; omega)) | exact (Below.heap_alloc _ _ _ (by first | omega | (simp; done) | (simp; omega))).trans (by first | exact World.alloc_heap_new _ _ | exact anew (by first | omega | (simp; done) | (simp; omega))) | exact (hb6.block _ (by first | omega | (simp; done) | (simp; omega))).trans (by first | exact World.alloc_heap_new _ _ | exact anew (by first | omega | (simp; done) | (simp; omega))) | exact (hb6.block _ (by first | omega | (simp; done) | (simp; omega))).trans ((Below.heap_alloc _ _ _ (by first | omega | (simp; done) | (simp; omega))).trans (by first | exact World.alloc_heap_new _ _ | exact anew (by first | omega | (simp; done) | (simp; omega)))) | exact (Below.heap_alloc _ _ _ (by first | omega | (simp; done) | (simp; omega))).trans ((hb6.block _ (by first | omega | (simp; done) | (simp; omega))).trans (by first | exact World.alloc_heap_new _ _ | exact anew (by first | omega | (simp; done) | (simp; omega)))) | exact (Below.heap_alloc _ _ _ (by first | omega | (simp; done) | (simp; omega))).trans ((hb6.block _ (by first | omega | (simp; done) | (simp; omega))).trans ((Below.heap_alloc _ _ _ (by first | omega | (simp; done) | (simp; omega))).trans (by first | exact World.alloc_heap_new _ _ | exact anew (by first | omega | (simp; done) | (simp; omega))))))
               have d0 : w7.cell? ⟨w6.heap.size, 0, none⟩ = some (.string ⟨#[]⟩) := by rw [Lib.cell_of_heap hD]; rfl
               have d1 : w7.cell? ⟨w6.heap.size, 1, none⟩ = some (.slice none 0 0) := by rw [Lib.cell_of_heap hD]; rfl
               have d2 : w7.cell? ⟨w6.heap.size, 2, none⟩ = some (.int .i64 0) := by rw [Lib.cell_of_heap hD]; rfl
               have e0 := Lib.frozen_of_heap hD 0
               have e1 := Lib.frozen_of_heap hD 1
               have e2 := Lib.frozen_of_heap hD 2)
             | (
               have hD : w7.heap[(w6.heap.size + 1)]? = some (.cells #[.string ⟨#[]⟩, .slice none 0 0, .int .i64 0] 27 (0, 0)) := (hb7.block _ (by first | omega | (simp; done) | (simp; omega))).trans (by first | exact World.alloc_heap_new _ _ | exact anew (by first | omega | (simp; done) | (simp; omega)) | exact (Below.heap_alloc _ _ _ (by first | omega | (simp; done) | (simp; omega))).trans (by first | exact World.alloc_heap_new _ _ | exact anew (by first | omega | (simp; done) | (simp; omega))) | exact (hb6.block _ (by first | omega | (simp; done) | (simp; omega))).trans (by first | exact World.alloc_heap_new _ _ | exact anew (by first | omega | (simp; done) | (simp; omega))) | exact (hb6.block _ (by first | omega | (simp; done) | (simp; omega))).trans ((Below.heap_alloc _ _ _ (by first | omega | (simp; done) | (simp; omega))).trans (by first | exact World.alloc_heap_new _ _ | exact anew (by first | omega | (simp; done) | (simp; omega)))) | exact (Below.heap_alloc _ _ _ (by first | omega | (simp; done) | (simp; omega))).trans ((hb6.block _ (by first | omega | (simp; done) | (simp; omega))).trans (by first | exact World.alloc_heap_new _ _ | exact anew (by first | omega | (simp; done) | (simp; omega)))) | exact (Below.heap_alloc _ _ _ (by first | omega | (simp; done) | (simp; omega))).trans ((hb6.block _ (by first | omega | (simp; done) | (simp; omega))).trans ((Below.heap_alloc _ _ _ (by first | omega | (simp; done) | (simp; omega))).trans (by first | exact World.alloc_heap_new _ _ | exact anew (by first | omega | (simp; done) | (simp; omega))))))
               have d0 : w7.cell? ⟨(w6.heap.size + 1), 0, none⟩ = some (.string ⟨#[]⟩) := by rw [Lib.cell_of_heap hD]; rfl
               have d1 : w7.cell? ⟨(w6.heap.size + 1), 1, none⟩ = some (.slice none 0 0) := by rw [Lib.cell_of_heap hD]; rfl
               have d2 : w7.cell? ⟨(w6.heap.size + 1), 2, none⟩ = some (.int .i64 0) := by rw [Lib.cell_of_heap hD]; rfl
               have e0 := Lib.frozen_of_heap hD 0
               have e1 := Lib.frozen_of_heap hD 1
               have e2 := Lib.frozen_of_heap hD 2)
             | skip))
        all_goals go_wp2
        all_goals go_meet
        all_goals exact ⟨_, rfl, rfl, (by first | omega | (simp; omega)), (by first | exact cell_new3 _ _ _ _ _ | exact cell_set3 hD _ _ _), (by first | exact hbY.alloc (by first | omega | (simp; done) | (simp; omega)) _ | exact ((hbY.setCell (p := ⟨_, 0, none⟩) (by first | omega | (simp; done) | (simp; omega)) _).setCell (p := ⟨_, 1, none⟩) (by first | omega | (simp; done) | (simp; omega)) _).setCell (p := ⟨_, 2, none⟩) (by first | omega | (simp; done) | (simp; omega)) _)⟩

      case rest =>
        obtain ⟨b1, rfl, rfl, hb1z, hc1, hbc⟩ := hcut
        clear HNB HCB
        have hzc := hbc.size
        have hb1l : b1 < wc.heap.size := World.block_lt_of_cell? wc ⟨b1, 0, none⟩ hc1
        have HNB : Hid (∀ X, Below wc.heap.size wc X → Calls Tryz.prog 9 #[.slice va L.length vc] X fun e w' => ∃ g cap, e = .returned (.slice (some ⟨g, 0, none⟩) L.length cap) ∧ NodeRow w'.heap.size w' (.slice (some ⟨g, 0, none⟩) L.length cap) L ∧ Below X.heap.size X w') := hide (fun X hX => HN.out X (hbc.trans (hX.mono hzc)))
        have HCB : Hid (∀ X, Below wc.heap.size wc X → X.cell? ⟨tb, 0, none⟩ = some (.string ⟨#[45, 116, 114, 117, 101]⟩) ∧ X.cell? ⟨tb, 1, none⟩ = some (.string ⟨#[]⟩) ∧ X.cell? ⟨tb, 2, none⟩ = some (.int .i64 0) ∧ X.cell? ⟨tb, 3, none⟩ = some (.int .i64 0) ∧ X.cell? ⟨tb, 4, none⟩ = some (.slice none 0 0)) := hide (fun X hX => HC.out X (hbc.trans (hX.mono hzc)))
        have HBC := hide hbc
        obtain ⟨Wa, hWa⟩ : ∃ Wa, wc = Wa := ⟨_, rfl⟩
        subst hWa
        have htl : tb < wc.heap.size := by omega
        clear hbc
        go_upto_region 6 with fail
        go_cut [13, 14] from 19 (fun v13 v14 wx => ∃ b : Nat, v13 = .pointer (some ⟨b, 0, none⟩) ∧ v14 = .int .i64 0 ∧ wc.heap.size ≤ b ∧ wx.cell? ⟨b, 0, none⟩ = some (.string x2) ∧ Below wc.heap.size wc wx)
        case first =>
          obtain ⟨o0, o1, o2, o3, o4⟩ := HCB.out wc (Below.refl _ _)
          have n1 : wc.heap.size ≠ tb := by omega
          have n2 : wc.heap.size + 1 ≠ tb := by omega
          go_region_held3 (fun w' => w'.cell? ⟨tb, 0, none⟩ = some (.string ⟨#[45, 116, 114, 117, 101]⟩) ∧ w'.cell? ⟨tb, 1, none⟩ = some (.string ⟨#[]⟩) ∧ w'.cell? ⟨tb, 2, none⟩ = some (.int .i64 0) ∧ w'.cell? ⟨tb, 3, none⟩ = some (.int .i64 0) ∧ w'.cell? ⟨tb, 4, none⟩ = some (.slice none 0 0)) (go_keep) (first
            | (go_at_call 9
               refine (HNB.out _ (by repeat first | exact Below.refl _ _ | refine Below.drew ?_ | refine Below.alloc ?_ (by first | omega | (simp; done) | (simp; omega)) _)).mono ?_
               rintro e w6 ⟨g, cap, rfl, hr6, hb6⟩
               have hbX : Below wc.heap.size wc w6 := Below.trans (by repeat first | exact Below.refl _ _ | refine Below.drew ?_ | refine Below.alloc ?_ (by first | omega | (simp; done) | (simp; omega)) _) (hb6.mono (by first | omega | (simp; done) | (simp; omega)))
               have hz6 := hb6.size
               try simp at hz6
               have hzX := hbX.size
               have n3 : w6.heap.size ≠ tb := by omega
               have n4 : w6.heap.size + 1 ≠ tb := by omega
               obtain ⟨q0, q1, q2, q3, q4⟩ := HCB.out w6 hbX)
            | (go_at_call 8
               refine (HW9.out w6 _ _ _ _ hr6 (by repeat first | exact Below.refl _ _ | refine Below.drew ?_ | refine Below.alloc ?_ (by first | omega | (simp; done) | (simp; omega)) _) (by first | exact World.alloc_heap_new _ _ | exact anew (by first | omega | (simp; done) | (simp; omega)) | exact (Below.heap_alloc _ _ _ (by first | omega | (simp; done) | (simp; omega))).trans (by first | exact World.alloc_heap_new _ _ | exact anew (by first | omega | (simp; done) | (simp; omega))) | exact (hb6.block _ (by first | omega | (simp; done) | (simp; omega))).trans (by first | exact World.alloc_heap_new _ _ | exact anew (by first | omega | (simp; done) | (simp; omega))) | exact (hb6.block _ (by first | omega | (simp; done) | (simp; omega))).trans ((Below.heap_alloc _ _ _ (by first | omega | (simp; done) | (simp; omega))).trans (by first | exact World.alloc_heap_new _ _ | exact anew (by first | omega | (simp; done) | (simp; omega)))) | exact (Below.heap_alloc _ _ _ (by first | omega | (simp; done) | (simp; omega))).trans ((hb6.block _ (by first | omega | (simp; done) | (simp; omega))).trans (by first | exact World.alloc_heap_new _ _ | exact anew (by first | omega | (simp; done) | (simp; omega)))) | exact (Below.heap_alloc _ _ _ (by first | omega | (simp; done) | (simp; omega))).trans ((hb6.block _ (by first | omega | (simp; done) | (simp; omega))).trans ((Below.heap_alloc _ _ _ (by first | omega | (simp; done) | (simp; omega))).trans (by first | exact World.alloc_heap_new _ _ | exact anew (by first | omega | (simp; done) | (simp; omega))))))).mono ?_
               rintro e w7 ⟨ta, tn, tc, st, rfl, hb7⟩
               have hb67 : Below w6.heap.size w6 w7 := Below.trans (by repeat first | exact Below.refl _ _ | refine Below.drew ?_ | refine Below.alloc ?_ (by first | omega | (simp; done) | (simp; omega)) _) (hb7.mono (by first | omega | (simp; done) | (simp; omega)))
               have hbY : Below wc.heap.size wc w7 := hbX.trans (hb67.mono (by first | omega | (simp; done) | (simp; omega)))
               have hz7 := hb7.size
               try simp at hz7
               have hzY := hbY.size
               have n5 : w7.heap.size ≠ tb := by omega
               obtain ⟨r0, r1, r2, r3, r4⟩ := HCB.out w7 hbY
               first
               | (
                 have hD : w7.heap[wc.heap.size]? = some (.cells #[.string ⟨#[]⟩, .slice none 0 0, .int .i64 0] 27 (0, 0)) := (hb7.block _ (by first | omega | (simp; done) | (simp; omega))).trans (by first | exact World.alloc_heap_new _ _ | exact anew (by first | omega | (simp; done) | (simp; omega)) | exact (Below.heap_alloc _ _ _ (by first | omega | (simp; done) | (simp; omega))).trans (by first | exact World.alloc_heap_new _ _ | exact anew (by first | omega | (simp; done) | (simp; omega))) | exact (hb6.block _ (by first | omega | (simp; done) | (simp; omega))).trans (by first | exact World.alloc_heap_new _ _ | exact anew (by first | omega | (simp; done) | (simp; omega))) | exact (hb6.block _ (by first | omega | (simp; done) | (simp; omega))).trans ((Below.heap_alloc _ _ _ (by first | omega | (simp; done) | (simp; omega))).trans (by first | exact World.alloc_heap_new _ _ | exact anew (by first | omega | (simp; done) | (simp; omega)))) | exact (Below.heap_alloc _ _ _ (by first | omega | (simp; done) | (simp; omega))).trans ((hb6.block _ (by first | omega | (simp; done) | (simp; omega))).trans (by first | exact World.alloc_heap_new _ _ | exact anew (by first | omega | (simp; done) | (simp; omega)))) | exact (Below.heap_alloc _ _ _ (by first | omega | (simp; done) | (simp; omega))).trans ((hb6.block _ (by first | omega | (simp; done) | (simp; omega))).trans ((Below.heap_alloc _ _ _ (by first | omega | (simp; done) | (simp; omega))).trans (by first | exact World.alloc_heap_new _ _ | exact anew (by first | omega | (simp; done) | (simp; omega))))))
                 have d0 : w7.cell? ⟨wc.heap.size, 0, none⟩ = some (.string ⟨#[]⟩) := by rw [Lib.cell_of_heap hD]; rfl
                 have d1 : w7.cell? ⟨wc.heap.size, 1, none⟩ = some (.slice none 0 0) := by rw [Lib.cell_of_heap hD]; rfl
                 have d2 : w7.cell? ⟨wc.heap.size, 2, none⟩ = some (.int .i64 0) := by rw [Lib.cell_of_heap hD]; rfl
                 have e0 := Lib.frozen_of_heap hD 0
                 have e1 := Lib.frozen_of_heap hD 1
                 have e2 := Lib.frozen_of_heap hD 2)
               | (
                 have hD : w7.heap[(wc.heap.size + 1)]? = some (.cells #[.string ⟨#[]⟩, .slice none 0 0, .int .i64 0] 27 (0, 0)) := (hb7.block _ (by first | omega | (simp; done) | (simp; omega))).trans (by first | exact World.alloc_heap_new _ _ | exact anew (by first | omega | (simp; done) | (simp; omega)) | exact (Below.heap_alloc _ _ _ (by first | omega | (simp; done) | (simp; omega))).trans (by first | exact World.alloc_heap_new _ _ | exact anew (by first | omega | (simp; done) | (simp; omega))) | exact (hb6.block _ (by first | omega | (simp; done) | (simp; omega))).trans (by first | exact World.alloc_heap_new _ _ | exact anew (by first | omega | (simp; done) | (simp; omega))) | exact (hb6.block _ (by first | omega | (simp; done) | (simp; omega))).trans ((Below.heap_alloc _ _ _ (by first | omega | (simp; done) | (simp; omega))).trans (by first | exact World.alloc_heap_new _ _ | exact anew (by first | omega | (simp; done) | (simp; omega)))) | exact (Below.heap_alloc _ _ _ (by first | omega | (simp; done) | (simp; omega))).trans ((hb6.block _ (by first | omega | (simp; done) | (simp; omega))).trans (by first | exact World.alloc_heap_new _ _ | exact anew (by first | omega | (simp; done) | (simp; omega)))) | exact (Below.heap_alloc _ _ _ (by first | omega | (simp; done) | (simp; omega))).trans ((hb6.block _ (by first | omega | (simp; done) | (simp; omega))).trans ((Below.heap_alloc _ _ _ (by first | omega | (simp; done) | (simp; omega))).trans (by first | exact World.alloc_heap_new _ _ | exact anew (by first | omega | (simp; done) | (simp; omega))))))
                 have d0 : w7.cell? ⟨(wc.heap.size + 1), 0, none⟩ = some (.string ⟨#[]⟩) := by rw [Lib.cell_of_heap hD]; rfl
                 have d1 : w7.cell? ⟨(wc.heap.size + 1), 1, none⟩ = some (.slice none 0 0) := by rw [Lib.cell_of_heap hD]; rfl
                 have d2 : w7.cell? ⟨(wc.heap.size + 1), 2, none⟩ = some (.int .i64 0) := by rw [Lib.cell_of_heap hD]; rfl
                 have e0 := Lib.frozen_of_heap hD 0
                 have e1 := Lib.frozen_of_heap hD 1
                 have e2 := Lib.frozen_of_heap hD 2)
               | (
                 have hD : w7.heap[w6.heap.size]? = some (.cells #[.string ⟨#[]⟩, .slice none 0 0, .int .i64 0] 27 (0, 0)) := (hb7.block _ (by first | omega | (simp; done) | (simp; omega))).trans (by first | exact World.alloc_heap_new _ _ | exact anew (by first | omega | (simp; done) | (simp; omega)) | exact (Below.heap_alloc _ _ _ (by first | omega | (simp; done) | (simp; omega))).trans (by first | exact World.alloc_heap_new _ _ | exact anew (by first | omega | (simp; done) | (simp; omega))) | exact (hb6.block _ (by first | omega | (simp; done) | (simp; omega))).trans (by first | exact World.alloc_heap_new _ _ | exact anew (by first | omega | (simp; done) | (simp; omega))) | exact (hb6.block _ (by first | omega | (simp; done) | (simp; omega))).trans ((Below.heap_alloc _ _ _ (by first | omega | (simp; done) | (simp; omega))).trans (by first | exact World.alloc_heap_new _ _ | exact anew (by first | omega | (simp; done) | (simp; omega)))) | exact (Below.heap_alloc _ _ _ (by first | omega | (simp; done) | (simp; omega))).trans ((hb6.block _ (by first | omega | (simp; done) | (simp; omega))).trans (by first | exact World.alloc_heap_new _ _ | exact anew (by first | omega | (simp; done) | (simp; omega)))) | exact (Below.heap_alloc _ _ _ (by first | omega | (simp; done) | (simp; omega))).trans ((hb6.block _ (by first | omega | (simp; done) | (simp; omega))).trans ((Below.heap_alloc _ _ _ (by first | omega | (simp; done) | (simp; omega))).trans (by first | exact World.alloc_heap_new _ _ | exact anew (by first | omega | (simp; done) | (simp; omega))))))
                 have d0 : w7.cell? ⟨w6.heap.size, 0, none⟩ = some (.string ⟨#[]⟩) := by rw [Lib.cell_of_heap hD]; rfl
                 have d1 : w7.cell? ⟨w6.heap.size, 1, none⟩ = some (.slice none 0 0) := by rw [Lib.cell_of_heap hD]; rfl
                 have d2 : w7.cell? ⟨w6.heap.size, 2, none⟩ = some (.int .i64 0) := by rw [Lib.cell_of_heap hD]; rfl
                 have e0 := Lib.frozen_of_heap hD 0
                 have e1 := Lib.frozen_of_heap hD 1
                 have e2 := Lib.frozen_of_heap hD 2)
               | (
                 have hD : w7.heap[(w6.heap.size + 1)]? = some (.cells #[.string ⟨#[]⟩, .slice none 0 0, .int .i64 0] 27 (0, 0)) := (hb7.block _ (by first | omega | (simp; done) | (simp; omega))).trans (by first | exact World.alloc_heap_new _ _ | exact anew (by first | omega | (simp; done) | (simp; omega)) | exact (Below.heap_alloc _ _ _ (by first | omega | (simp; done) | (simp; omega))).trans (by first | exact World.alloc_heap_new _ _ | exact anew (by first | omega | (simp; done) | (simp; omega))) | exact (hb6.block _ (by first | omega | (simp; done) | (simp; omega))).trans (by first | exact World.alloc_heap_new _ _ | exact anew (by first | omega | (simp; done) | (simp; omega))) | exact (hb6.block _ (by first | omega | (simp; done) | (simp; omega))).trans ((Below.heap_alloc _ _ _ (by first | omega | (simp; done) | (simp; omega))).trans (by first | exact World.alloc_heap_new _ _ | exact anew (by first | omega | (simp; done) | (simp; omega)))) | exact (Below.heap_alloc _ _ _ (by first | omega | (simp; done) | (simp; omega))).trans ((hb6.block _ (by first | omega | (simp; done) | (simp; omega))).trans (by first | exact World.alloc_heap_new _ _ | exact anew (by first | omega | (simp; done) | (simp; omega)))) | exact (Below.heap_alloc _ _ _ (by first | omega | (simp; done) | (simp; omega))).trans ((hb6.block _ (by first | omega | (simp; done) | (simp; omega))).trans ((Below.heap_alloc _ _ _ (by first | omega | (simp; done) | (simp; omega))).trans (by first | exact World.alloc_heap_new _ _ | exact anew (by first | omega | (simp; done) | (simp; omega))))))
                 have d0 : w7.cell? ⟨(w6.heap.size + 1), 0, none⟩ = some (.string ⟨#[]⟩) := by rw [Lib.cell_of_heap hD]; rfl
                 have d1 : w7.cell? ⟨(w6.heap.size + 1), 1, none⟩ = some (.slice none 0 0) := by rw [Lib.cell_of_heap hD]; rfl
                 have d2 : w7.cell? ⟨(w6.heap.size + 1), 2, none⟩ = some (.int .i64 0) := by rw [Lib.cell_of_heap hD]; rfl
                 have e0 := Lib.frozen_of_heap hD 0
                 have e1 := Lib.frozen_of_heap hD 1
                 have e2 := Lib.frozen_of_heap hD 2)
               | skip))
          all_goals go_wp2
          all_goals go_meet
          all_goals exact ⟨_, rfl, rfl, (by first | omega | (simp; omega)), (by first | exact cell_new3 _ _ _ _ _ | exact cell_set3 hD _ _ _), (by first | exact hbY.alloc (by first | omega | (simp; done) | (simp; omega)) _ | exact ((hbY.setCell (p := ⟨_, 0, none⟩) (by first | omega | (simp; done) | (simp; omega)) _).setCell (p := ⟨_, 1, none⟩) (by first | omega | (simp; done) | (simp; omega)) _).setCell (p := ⟨_, 2, none⟩) (by first | omega | (simp; done) | (simp; omega)) _)⟩

        case rest =>
          obtain ⟨b2, rfl, rfl, hb2z, hc2, hb2c⟩ := hcut
          have c1 : wc.cell? ⟨b1, 0, none⟩ = some (.string x1) := (hb2c.cell (p := ⟨b1, 0, none⟩) hb1l).trans hc1
          have HBF : Hid (Below w.heap.size w wc) := hide (HB.out.trans ((HBC.out.trans (hb2c.mono HBC.out.size)).mono HB.out.size))
          obtain ⟨l, hl⟩ : ∃ l, visG L false 1000 (L.length + 1) 0 ⟨#[47]⟩ 0 = l := ⟨_, rfl⟩
          have ho := once_r HK.out false
          simp only [hl] at ho
          have hxl : x1 = outS l := by
            rw [← HX1.out, hl, outW_all (fun v hv => by rw [(ho.2.2.2.2.2.at_ v hv).2.1]; exact dep_pos _ _)]
            rfl
          have hxs : x1.size ≤ 1000000000 := by
            have h1 := out_len HK.out ho.2.2.2.2.2
            have h2 := ho.2.2.2.2.1
            have h3 : x1.size = (outL l).length := by rw [hxl, ← len_data]; rfl
            have h4 : 12301 * l.length ≤ 12301 * 1000 := Nat.mul_le_mul_left _ (by omega)
            omega
          rw [← hxl] at ho
          have HX := hide (⟨ho.1, hxl, hl⟩ : _ ∧ _ ∧ _)
          clear hc1 hb1l hb2c hb2z hb1z hzc htl HNB HCB HBC HN HC HW8 HW9 ho hxl hl HHW HZW HWW1 HBW HB HROW HKL htb
          go_wp2_with fail
          refine (num_any 0 _).mono ?_
          rintro e w6 ⟨rfl, hw6⟩
          rw [hw6]
          clear hw6
          go_wp2_with fail
          refine (num_any 0 _).mono ?_
          rintro e w6 ⟨rfl, hw6⟩
          rw [hw6]
          clear hw6
          have HLI := hide (lines_any x1 ⟨#[47]⟩ wc (by omega))
          go_wp2_with fail
          refine HLI.out.mono ?_
          rintro e w6 ⟨rfl, hw6⟩
          rw [hw6, HX.out.1]
          clear hw6 HLI
          go_wp2
          go_loopw [15, 16, 17] (fun gv fv iv wr => ∃ (k f : Nat) (done : List ByteArray), CutSt 10 x1 k f done ∧ k ≤ x1.size ∧ iv = .int .i64 (k : Int) ∧ fv = .int .i64 (f : Int) ∧ gv = .string (bs (wantD mn mx done)) ∧ (wantD mn mx done).length ≤ f ∧ wr = wc) (fun _ _ iv _ => x1.size - (intOf iv).toNat)
          case atStart => exact ⟨0, 0, [], cutSt_zero 10 x1, Nat.zero_le _, rfl, rfl, rfl, Nat.le_refl _, rfl⟩
          case round =>
            obtain ⟨k, f, done, hst, hk, rfl, rfl, rfl, hwl, hwr⟩ := hrel
            rw [hwr]
            clear hwr
            by_cases hlt : k < x1.size
            · have hf := cutSt_from hst hk
              have hkI : (k : Int) < (x1.size : Int) := by omega
              by_cases hc : x1[k] = 10
              · have hbc : ((x1[k].toNat : Int) == 10) = true := by rw [hc]; rfl
                have HST : Hid (CutSt 10 x1 (k + 1) (k + 1) (done ++ [x1.extract f k])) := cutSt_hit hst hlt hc
                have hsn := wantD_snoc mn mx done (x1.extract f k)
                have hle := line_ext hf hlt hc
                obtain ⟨ln, hln⟩ : ∃ ln, x1.extract f k = ln := ⟨_, rfl⟩
                rw [hln] at hsn hle HST
                have hls : ln.size ≤ k - f := by rw [← hln, ByteArray.size_extract]; omega
                obtain ⟨wd, hwd⟩ : ∃ wd, wantD mn mx done = wd := ⟨_, rfl⟩
                rw [hwd] at hsn hwl ⊢
                have hwz : (bs wd).size ≤ f := by rw [← len_data, data_bs]; exact hwl
                obtain ⟨wb, hwb⟩ : ∃ wb, bs wd = wb := ⟨_, rfl⟩
                rw [hwb] at hwz ⊢
                have hdp := deep_any ln wc (by omega)
                obtain ⟨dp, hdpe⟩ : ∃ dp, deepS ln = dp := ⟨_, rfl⟩
                rw [hdpe] at hdp
                have hin : inD mn mx ln = (decide (mn ≤ (dp : Int)) && decide ((dp : Int) ≤ mx)) := by unfold inD; rw [hdpe]
                have HDP := hide hdp
                have HLN := hide hln
                have hl2 : (bs (ln.data.toList ++ [10])).size = ln.size + 1 := by rw [← len_data, data_bs, List.length_append, len_data]; rfl
                obtain ⟨lt, hlt2⟩ : ∃ lt, bs (ln.data.toList ++ [10]) = lt := ⟨_, rfl⟩
                rw [hlt2] at hle hl2
                have HPL := hide (⟨hsn, hin, hwb, hlt2⟩ : _ ∧ _ ∧ _ ∧ _)
                have HLE := hide hle
                clear hst hc hsn hwd hwb hdp hdpe hin hlt2
                go_wp2_with fail
                refine HDP.out.mono ?_
                rintro e w6 ⟨rfl, hw6⟩
                rw [hw6]
                clear hw6 HDP
                by_cases h1 : mn ≤ (dp : Int)
                · have g1 : decide (mn ≤ (dp : Int)) = true := decide_eq_true h1
                  by_cases h2 : (dp : Int) ≤ mx
                  · have g2 : decide ((dp : Int) ≤ mx) = true := decide_eq_true h2
                    have HG := hide (⟨g1, g2⟩ : _ ∧ _)
                    clear h1 h2
                    go_wp2
                    go_roundw
                    case rel =>
                      obtain ⟨p1, p2, p3, p4⟩ := HPL.out
                      rw [p2, HG.out.1, HG.out.2] at p1
                      have e1 : wantD mn mx (done ++ [ln]) = wd ++ (ln.data.toList ++ [10]) := p1
                      exact ⟨k + 1, k + 1, done ++ [ln], HST.out, by omega, by go_num, by go_num, by rw [e1, ← bs_app, p3, p4], by rw [e1, List.length_append, List.length_append, len_data]; simp only [List.length_cons, List.length_nil]; omega, trivial⟩
                    case measure => simp [intOf]; omega
                  · have g2 : decide ((dp : Int) ≤ mx) = false := decide_eq_false h2
                    have HG := hide (⟨g1, g2⟩ : _ ∧ _)
                    clear h1 h2
                    go_wp2
                    go_roundw
                    case rel =>
                      obtain ⟨p1, p2, p3, p4⟩ := HPL.out
                      rw [p2, HG.out.1, HG.out.2] at p1
                      have e1 : wantD mn mx (done ++ [ln]) = wd := by rw [p1]; exact List.append_nil _
                      exact ⟨k + 1, k + 1, done ++ [ln], HST.out, by omega, by go_num, by go_num, by rw [e1, p3], by rw [e1]; omega, trivial⟩
                    case measure => simp [intOf]; omega
                · have g1 : decide (mn ≤ (dp : Int)) = false := decide_eq_false h1
                  have HG := hide g1
                  clear h1
                  go_wp2
                  go_roundw
                  case rel =>
                    obtain ⟨p1, p2, p3, p4⟩ := HPL.out
                    rw [p2, HG.out] at p1
                    have e1 : wantD mn mx (done ++ [ln]) = wd := by rw [p1]; exact List.append_nil _
                    exact ⟨k + 1, k + 1, done ++ [ln], HST.out, by omega, by go_num, by go_num, by rw [e1, p3], by rw [e1]; omega, trivial⟩
                  case measure => simp [intOf]; omega
              · have hbc : ((x1[k].toNat : Int) == 10) = false := by
                  rw [beq_eq_false_iff_ne]; intro e; exact hc (UInt8.toNat_inj.1 (by have : (10 : UInt8).toNat = 10 := rfl; omega))
                have HST : Hid (CutSt 10 x1 (k + 1) f done) := cutSt_miss hst hlt hc
                clear hst hc
                go_wp2
                go_roundw
                case rel => exact ⟨k + 1, f, done, HST.out, by omega, by go_num, rfl, rfl, hwl, trivial⟩
                case measure => simp [intOf]; omega
            · have hke : k = x1.size := by omega
              subst hke
              have hd := cut_done hst
              have hwx : bs (wantD mn mx done) = x2 := by
                have h1 := HX.out.2.1
                have h2 := HX.out.2.2
                rw [h1, ← h2] at hd
                rw [depths_plain HK.out mn mx hmx hd]
                exact HX2.out
              rw [hwx]
              have hbx : (x2.toList == x2.toList) = true := by simp
              clear hst hd hwl hwx
              go_wp2
              go_ret
              exact ⟨rfl, HBF.out⟩
    · exact absurd her he
  · rw [her, hpl]
    have HB1 := hide hb1
    clear hown hsrt hrow hb1 hL HLO hpl her htold
    by_cases h1 : er = 0
    · subst h1
      by_cases h2 : 0 ≤ mn
      · have i1 : decide (mn < 0) = false := by rw [decide_eq_false_iff_not]; omega
        have i2 : decide (mx < 0) = true := by rw [decide_eq_true_eq]; omega
        clear hok h2
        go_wp2
        go_ret
        exact ⟨rfl, HB1.out⟩
      · have i1 : decide (mn < 0) = true := by rw [decide_eq_true_eq]; omega
        clear hok h2
        go_wp2
        go_ret
        exact ⟨rfl, HB1.out⟩
    · have hne : (er == 0) = false := by rw [beq_eq_false_iff_ne]; exact h1
      have hne2 : (er != 0) = true := by simpa using h1
      clear hok
      go_wp2
      go_ret
      exact ⟨rfl, HB1.out⟩
end Go.Proofs.YtfemboojdablhaaGreatDoor.Tre
