/- The law PathParts: the walk. -/
import Derived.Test.YtehbjabneocflaaDoorParts
import Derived.Test.YtehbjabneocflaaDoorBase
namespace Go.Proofs.YtehbjabneocflaaDoor
open Go.RowKit

/-- Block g is a row of at least n cells that may be written. -/
def RowAt (W : World) (g n : Nat) : Prop := ∃ cur, W.heap[g]? = some (.cells cur 9 (0, 0)) ∧ n ≤ cur.size
theorem RowAt.cell {W : World} {g n k : Nat} (h : RowAt W g n) (hk : k < n) : ∃ v, W.cell? ⟨g, k, none⟩ = some v := by
  obtain ⟨cur, hg, hn⟩ := h
  exact ⟨cur[k]'(by omega), by simp [World.cell?, hg]⟩
theorem RowAt.frozen {W : World} {g n : Nat} (h : RowAt W g n) (k : Nat) : W.frozen? ⟨g, k, none⟩ = false := by
  obtain ⟨cur, hg, hn⟩ := h
  simp [World.frozen?, hg]
theorem RowAt.set {W : World} {g n : Nat} (h : RowAt W g n) (k : Nat) (v : Value) : RowAt (W.setCell ⟨g, k, none⟩ v) g n := by
  obtain ⟨cur, hg, hn⟩ := h
  obtain ⟨hlt, hk⟩ := Array.getElem?_eq_some_iff.1 hg
  refine ⟨cur.setIfInBounds k v, ?_, by simpa using hn⟩
  show (W.heap.modify g _)[g]? = _
  rw [Array.getElem?_eq_getElem (by rw [Array.size_modify]; exact hlt), Array.getElem_modify_self, hk]
  rfl
theorem RowAt.lt {W : World} {g n : Nat} (h : RowAt W g n) : g < W.heap.size := by
  obtain ⟨cur, hg, _⟩ := h
  exact (Array.getElem?_eq_some_iff.1 hg).1
theorem RowAt.below {W W' : World} {g n B : Nat} (h : RowAt W g n) (hb : Below B W W') (hg : g < B) : RowAt W' g n := by
  obtain ⟨cur, hc, hn⟩ := h
  exact ⟨cur, (hb.block g hg).trans hc, hn⟩
theorem RowAt.drewN {W : World} {g n : Nat} (h : RowAt W g n) (m : Nat) : RowAt (W.drewN m) g n := h
theorem chain4 {B : Nat} {w W w3 w4 w6 : World} (h0 : Below B w W) (h3 : Below W.heap.size W w3) (h4 : Below w3.heap.size w3 w4) (n : Nat) (h6 : Below (w4.drewN n).heap.size (w4.drewN n) w6) (hB : B ≤ W.heap.size := by exact Below.size ‹_›) : Below B w w6 := by
  have e3 := h3.size
  have e4 := h4.size
  have a := (h0.trans (h3.mono hB)).trans (h4.mono (by omega))
  exact (below_drewN a n).trans (h6.mono (show B ≤ w4.heap.size by omega))
theorem RowAt.of_owns {W : World} {B n g cap : Nat} {xs : List Value} (h : W.ownsRow B 9 1 (.slice (some ⟨g, 0, none⟩) n cap) n xs) : RowAt W g n ∧ B ≤ g := by
  rcases h.2 with ⟨e, _⟩ | ⟨g', cap', cur, e, hb, hg, hn, _, hs, _⟩
  · cases e
  · cases e
    exact ⟨⟨cur, hg, by omega⟩, hb⟩

/-- How v, of n texts, is written over: nil, or a row of the call's own. -/
theorem row_form {W : World} {B : Nat} {v : Value} {xs : List ByteArray} (h : W.ownsRow B 9 1 v xs.length (xs.map Value.string)) : (xs = [] ∧ ∃ a cap, v = .slice a 0 cap) ∨ (∃ g cap, v = .slice (some ⟨g, 0, none⟩) xs.length cap ∧ RowAt W g xs.length ∧ B ≤ g) := by
  rcases h.2 with ⟨rfl, e⟩ | ⟨g, cap, cur, rfl, hb, hg, hn, _, hs, _⟩
  · exact .inl ⟨List.eq_nil_of_length_eq_zero e, _, _, rfl⟩
  · exact .inr ⟨g, cap, rfl, ⟨cur, hg, by omega⟩, hb⟩

set_option maxHeartbeats 2000000 in
theorem law_parts (s : ByteArray) (w : World) (hs : s.size ≤ 1073741824) :
    Calls Tryd.prog 3 #[.string s] w fun e w' => e = .returned (.bool true) ∧ Below w.heap.size w w' := by
  have hpl := partsS_length s
  go_enter Tryd.func3, Tryd.ntmps3
  go_wp2_with fail
  refine (parts_any s _ hs).mono ?_
  rintro e w1 ⟨v1, rfl, hown1, hb1⟩
  go_wp2_with fail
  refine (base_any s _ hs).mono ?_
  rintro e w1' ⟨rfl, rfl⟩
  go_wp2_with fail
  refine (refparts_any s _ hs).mono ?_
  rintro e w2 ⟨v2, rfl, hown2, hb2⟩
  go_wp2_with fail
  refine (texts_same (by omega) ((StrRow.of_owns hown1).below hb2) (StrRow.of_owns hown2)).mono ?_
  rintro e w2' ⟨rfl, n2, rfl⟩
  have hB2 : Below w.heap.size w (w2.drewN n2) := below_drewN (hb1.trans (hb2.mono hb1.size)) n2
  have hR2 : (partsS s = [] ∧ ∃ a cap, v1 = .slice a 0 cap) ∨ (∃ g cap, v1 = .slice (some ⟨g, 0, none⟩) (partsS s).length cap ∧ RowAt (w2.drewN n2) g (partsS s).length ∧ w.heap.size ≤ g) := by
    rcases row_form hown1 with h | ⟨g, cap, e, h, hg⟩
    · exact .inl h
    · exact .inr ⟨g, cap, e, (h.below hb2 h.lt).drewN n2, hg⟩
  clear hown1 hown2
  obtain ⟨W2, hW2⟩ : ∃ W2, w2.drewN n2 = W2 := ⟨_, rfl⟩
  rw [hW2] at hB2 hR2 ⊢
  clear hW2 hb1 hb2
  rcases hR2 with ⟨hnil, a, cap, rfl⟩ | ⟨g, cap, rfl, hrow, hg⟩
  · go_wp2
    refine wp_loop_rounds 1 ?_
    rw [rounds_succ]
    go_wp2_with fail
    refine (parts_any s _ hs).mono ?_
    rintro e w3 ⟨v3, rfl, hown3, hb3⟩
    go_wp2_with fail
    refine (refparts_any s _ hs).mono ?_
    rintro e w4 ⟨v4, rfl, hown4, hb4⟩
    go_wp2_with fail
    refine (texts_same (by omega) ((StrRow.of_owns hown3).below hb4) (StrRow.of_owns hown4)).mono ?_
    rintro e w5 ⟨rfl, n5, rfl⟩
    go_wp2_with fail
    refine (refbase_any s _ hs).mono ?_
    rintro e w6 ⟨rfl, hb6⟩
    go_wp2
    go_ret
    exact ⟨rfl, chain4 hB2 hb3 hb4 n5 hb6⟩
  · go_wp2
    go_loopw [6] (fun iv wr => ∃ k : Nat, k ≤ (partsS s).length ∧ iv = .int .i64 k ∧ RowAt wr g (partsS s).length ∧ Below w.heap.size w wr) (fun iv _ => (partsS s).length - (intOf iv).toNat)
    case atStart => exact ⟨0, Nat.zero_le _, rfl, hrow, hB2⟩
    case round =>
      obtain ⟨k, hk, rfl, hrw, hBr⟩ := hrel
      by_cases hlt : k < (partsS s).length
      · obtain ⟨old, hc⟩ := hrw.cell hlt
        have hf := hrw.frozen k
        go_wp2
        go_roundw
        case rel => exact ⟨k + 1, by omega, by go_num, hrw.set k _, hBr.setCell (p := ⟨g, k, none⟩) hg _⟩
        case measure => simp [intOf]; omega
      · obtain rfl : k = (partsS s).length := by omega
        go_wp2_with fail
        refine (parts_any s _ hs).mono ?_
        rintro e w3 ⟨v3, rfl, hown3, hb3⟩
        go_wp2_with fail
        refine (refparts_any s _ hs).mono ?_
        rintro e w4 ⟨v4, rfl, hown4, hb4⟩
        go_wp2_with fail
        refine (texts_same (by omega) ((StrRow.of_owns hown3).below hb4) (StrRow.of_owns hown4)).mono ?_
        rintro e w5 ⟨rfl, n5, rfl⟩
        go_wp2_with fail
        refine (refbase_any s _ hs).mono ?_
        rintro e w6 ⟨rfl, hb6⟩
        go_wp2
        go_ret
        exact ⟨rfl, chain4 hBr hb3 hb4 n5 hb6⟩
end Go.Proofs.YtehbjabneocflaaDoor
