/- The law IgnoreReads. -/
import Derived.Test.YtoebmpllckpjlaaDoorIgK
namespace Go.Proofs.YtoebmpllckpjlaaDoor
open Go.RowKit Go.Maps

/-- The first rules while they are spoilt: the one block alone has turned. -/
structure Spoilt (g n : Nat) (W wr : World) : Prop where
  os : wr.os = W.os
  tape : wr.tape = W.tape
  output : wr.output = W.output
  size : wr.heap.size = W.heap.size
  other : ∀ k, k ≠ g → wr.heap[k]? = W.heap[k]?
  own : ∃ cs : Array Value, wr.heap[g]? = some (.cells cs 28 (0, 0)) ∧ n * 4 ≤ cs.size
theorem Spoilt.set {g n : Nat} {W wr : World} (h : Spoilt g n W wr) (j : Nat) (v : Value) : Spoilt g n W (wr.setCell ⟨g, j, none⟩ v) := by
  obtain ⟨cs, hcs, hn⟩ := h.own
  exact ⟨h.os, h.tape, h.output, by rw [set_size]; exact h.size, fun k hk => (set_other _ _ _ _ hk).trans (h.other k hk), cs.set! j v, RB.set hcs j v, by simpa using hn⟩
theorem Spoilt.cell {g n : Nat} {W wr : World} (h : Spoilt g n W wr) {j : Nat} (hj : j < n * 4) : (∃ u, wr.cell? ⟨g, j, none⟩ = some u) ∧ wr.frozen? ⟨g, j, none⟩ = false := by
  obtain ⟨cs, hcs, hn⟩ := h.own
  refine ⟨⟨cs[j]'(by omega), ?_⟩, by simp [World.frozen?, hcs]⟩
  rw [cell_of_row _ _ _ _ _ _ hcs]
  exact Array.getElem?_eq_getElem (by omega)
set_option maxRecDepth 100000 in
set_option maxHeartbeats 4000000 in
theorem reads_any (s : ByteArray) (w : World) (hs : s.size ≤ 10000000) (hM : MaxW w) (h2 : 2 < w.heap.size) :
    Calls Tryd.prog 3 #[.string s] w fun e w' => e = .returned (.bool true) ∧ Below w.heap.size w w' := by
  have hr1 := readR_any s (by omega) w hM h2
  have hrl := rules_len s
  obtain ⟨A, hA⟩ : ∃ A, rulesOf s = A := ⟨_, rfl⟩
  rw [hA] at hr1 hrl
  go_enter Tryd.func3, Tryd.ntmps3
  go_wp2_with fail
  refine hr1.mono ?_
  rintro e W1 ⟨v1, rfl, hown1, hb1⟩
  have hrow1 := RRow.of_owns hown1
  obtain ⟨p1, c1, hv1⟩ := hrow1.shape
  subst hv1
  have hr2 := readRules_any s (by omega) W1
  rw [hA] at hr2
  have H1 := hide (⟨hown1, hrow1, hb1⟩ : _ ∧ _ ∧ _)
  clear hr1 hown1 hrow1 hb1
  go_wp2_with fail
  refine hr2.mono ?_
  rintro e W2 ⟨v2, rfl, hown2, hb2⟩
  have hrow2 := RRow.of_owns hown2
  obtain ⟨p2, c2, hv2⟩ := hrow2.shape
  subst hv2
  have hrow12 : RRow 28 W1.heap.size W2 (.slice p1 A.length c1) A := H1.out.2.1.below (fun k hk => hb2.block k hk)
  have hsm := sameRules_any W2 (by omega) hrow12 hrow2 hb2.size (Nat.le_refl _)
  have H2 := hide (⟨hown2, hrow2, hb2⟩ : _ ∧ _ ∧ _)
  clear hr2 hown2 hrow2 hb2 hrow12
  go_wp2_with fail
  refine hsm.mono ?_
  rintro e W3 ⟨rfl, hb3⟩
  have hb13 : Below W1.heap.size W1 W3 := H2.out.2.2.trans (hb3.mono H2.out.2.2.size)
  have hbw3 : Below w.heap.size w W3 := H1.out.2.2.trans (hb13.mono H1.out.2.2.size)
  have hrow23 : RRow 38 W2.heap.size W3 (.slice p2 A.length c2) A := H2.out.2.1.below (fun k hk => hb3.block k hk)
  have H3 := hide (⟨hb13, hbw3, hrow23, hb3⟩ : _ ∧ _ ∧ _ ∧ _)
  clear hsm hb13 hbw3 hrow23 hb3
  go_wp2
  go_loopw [6] (fun iv wr => ∃ k : Nat, k ≤ A.length ∧ iv = .int .i64 k ∧ ((A.length = 0 ∧ wr = W3) ∨ ∃ g, p1 = some ⟨g, 0, none⟩ ∧ w.heap.size ≤ g ∧ g < W1.heap.size ∧ Spoilt g A.length W3 wr)) (fun iv _ => A.length - (intOf iv).toNat)
  case atStart =>
    refine ⟨0, Nat.zero_le _, rfl, ?_⟩
    rcases H1.out.1.2 with ⟨e, h0⟩ | ⟨g, cap, cur, e, hb, hg, hn, _, hsz, _⟩
    · exact .inl ⟨h0, rfl⟩
    · cases e
      have hgl := (Array.getElem?_eq_some_iff.1 hg).1
      exact .inr ⟨g, rfl, hb, hgl, rfl, rfl, rfl, rfl, fun _ _ => rfl, cur, (H3.out.1.block g hgl).trans hg, by rw [hsz]; omega⟩
  case round =>
    obtain ⟨k, hk, rfl, hP⟩ := hrel
    by_cases hlt : k < A.length
    · have hkI : (k : Int) < (A.length : Int) := by omega
      rcases hP with ⟨h0, _⟩ | ⟨g, rfl, hg1, hg2, hsp⟩
      · omega
      · obtain ⟨⟨u0, y0⟩, f0⟩ := hsp.cell (j := k * 4) (by omega)
        obtain ⟨⟨u1, y1⟩, f1⟩ := hsp.cell (j := k * 4 + 1) (by omega)
        obtain ⟨⟨u2, y2⟩, f2⟩ := hsp.cell (j := k * 4 + 2) (by omega)
        obtain ⟨⟨u3, y3⟩, f3⟩ := hsp.cell (j := k * 4 + 3) (by omega)
        have HSP := hide hsp
        clear hsp
        go_wp2
        have h4 := (((HSP.out.set (k * 4) (.bool false)).set (k * 4 + 1) (.bool false)).set (k * 4 + 2) (.bool false)).set (k * 4 + 3) (.string ⟨#[63]⟩)
        go_roundw
        case rel => exact ⟨k + 1, by omega, by go_num, .inr ⟨g, rfl, hg1, hg2, h4⟩⟩
        case measure => simp [intOf]; omega
    · obtain rfl : k = A.length := by omega
      have hfacts : Below w.heap.size w wr ∧ wr.ownsRow W1.heap.size 38 4 (.slice p2 A.length c2) A.length (rulesL A) := by
        have hkeep : ∀ (hx : ∀ k, W1.heap.size ≤ k → wr.heap[k]? = W3.heap[k]?), wr.ownsRow W1.heap.size 38 4 (.slice p2 A.length c2) A.length (rulesL A) := fun hx => row_keep H2.out.1 (fun k c hk ho => by
          have hlo := (own_cells H2.out.1 ho).1
          rw [hx k hlo, H3.out.2.2.2.block k (Array.getElem?_eq_some_iff.1 hk).1]
          exact hk)
        rcases hP with ⟨_, rfl⟩ | ⟨g, rfl, hg1, hg2, hsp⟩
        · exact ⟨H3.out.2.1, hkeep (fun _ _ => rfl)⟩
        · exact ⟨below_out H3.out.2.1 hsp.os hsp.tape hsp.output (by rw [hsp.size]; exact Nat.le_refl _) (fun k hk => hsp.other k (by omega)), hkeep (fun k hk => hsp.other k (by omega))⟩
      obtain ⟨hbw, hown2⟩ := hfacts
      have hrow2 := RRow.of_owns hown2
      have hr5 := readR_any s (by omega) wr (hM.below h2 hbw) (Nat.lt_of_lt_of_le h2 hbw.size)
      rw [hA] at hr5
      have HW := hide (⟨hrow2, hbw⟩ : _ ∧ _)
      clear hP hown2 hrow2 hbw hA
      go_wp2_with fail
      refine hr5.mono ?_
      rintro e W5 ⟨v5, rfl, hown5, hb5⟩
      have hrow5 := RRow.of_owns hown5
      obtain ⟨p5, c5, hv5⟩ := hrow5.shape
      subst hv5
      have hrow25 : RRow 38 wr.heap.size W5 (.slice p2 A.length c2) A := HW.out.1.below (fun k hk => hb5.block k hk)
      have hsm := sameRules_any W5 (by omega) hrow5 hrow25 (Nat.le_refl _) hb5.size
      have hbw5 : Below w.heap.size w W5 := HW.out.2.trans (hb5.mono HW.out.2.size)
      have HV := hide hbw5
      clear hr5 hown5 hb5 hrow5 hrow25 hbw5
      go_wp2_with fail
      refine hsm.mono ?_
      rintro e W6 ⟨rfl, hb6⟩
      go_wp2
      go_ret
      exact ⟨rfl, HV.out.trans (hb6.mono HV.out.size)⟩
end Go.Proofs.YtoebmpllckpjlaaDoor
