/- The reference's fields and lineOf, as far as going through a tree asks. -/
import Derived.Test.YtehbjabneocflaaDoorField
namespace Go.Proofs.YtehbjabneocflaaDoor
open Go.RowKit

/-- Block b is a node by itself. -/
def BoxN (W : World) (b : Nat) (k : Int) (nm : ByteArray) (up sz tm : Int) (tx : ByteArray) (kv : Value) : Prop :=
  W.heap[b]? = some (.cells #[.int .u8 k, .string nm, .int .i64 up, .int .i64 sz, .int .i64 tm, .string tx, kv] 44)
theorem BoxN.cells {W : World} {b : Nat} {k : Int} {nm : ByteArray} {up sz tm : Int} {tx : ByteArray} {kv : Value} (h : BoxN W b k nm up sz tm tx kv) :
    W.cell? ⟨b, 0, none⟩ = some (.int .u8 k) ∧ W.cell? ⟨b, 1, none⟩ = some (.string nm) ∧ W.cell? ⟨b, 2, none⟩ = some (.int .i64 up) ∧ W.cell? ⟨b, 3, none⟩ = some (.int .i64 sz) ∧ W.cell? ⟨b, 4, none⟩ = some (.int .i64 tm) ∧ W.cell? ⟨b, 5, none⟩ = some (.string tx) ∧ W.cell? ⟨b, 6, none⟩ = some kv ∧ ∀ j, W.frozen? ⟨b, j, none⟩ = false := box_cells h
theorem BoxN.set3 {W : World} {b : Nat} {k : Int} {nm : ByteArray} {up sz tm : Int} {tx : ByteArray} {kv : Value} (h : BoxN W b k nm up sz tm tx kv) (x : Int) : BoxN (W.setCell ⟨b, 3, none⟩ (.int .i64 x)) b k nm up x tm tx kv := by
  obtain ⟨hlt, hk⟩ := Array.getElem?_eq_some_iff.1 h
  show (W.heap.modify b _)[b]? = _
  rw [Array.getElem?_eq_getElem (by rw [Array.size_modify]; exact hlt), Array.getElem_modify_self, hk]
  rfl
theorem BoxN.set4 {W : World} {b : Nat} {k : Int} {nm : ByteArray} {up sz tm : Int} {tx : ByteArray} {kv : Value} (h : BoxN W b k nm up sz tm tx kv) (x : Int) : BoxN (W.setCell ⟨b, 4, none⟩ (.int .i64 x)) b k nm up sz x tx kv := by
  obtain ⟨hlt, hk⟩ := Array.getElem?_eq_some_iff.1 h
  show (W.heap.modify b _)[b]? = _
  rw [Array.getElem?_eq_getElem (by rw [Array.size_modify]; exact hlt), Array.getElem_modify_self, hk]
  rfl
theorem BoxN.set0 {W : World} {b : Nat} {k : Int} {nm : ByteArray} {up sz tm : Int} {tx : ByteArray} {kv : Value} (h : BoxN W b k nm up sz tm tx kv) (x : Int) : BoxN (W.setCell ⟨b, 0, none⟩ (.int .u8 x)) b x nm up sz tm tx kv := by
  obtain ⟨hlt, hk⟩ := Array.getElem?_eq_some_iff.1 h
  show (W.heap.modify b _)[b]? = _
  rw [Array.getElem?_eq_getElem (by rw [Array.size_modify]; exact hlt), Array.getElem_modify_self, hk]
  rfl
theorem BoxN.set5 {W : World} {b : Nat} {k : Int} {nm : ByteArray} {up sz tm : Int} {tx : ByteArray} {kv : Value} (h : BoxN W b k nm up sz tm tx kv) (x : ByteArray) : BoxN (W.setCell ⟨b, 5, none⟩ (.string x)) b k nm up sz tm x kv := by
  obtain ⟨hlt, hk⟩ := Array.getElem?_eq_some_iff.1 h
  show (W.heap.modify b _)[b]? = _
  rw [Array.getElem?_eq_getElem (by rw [Array.size_modify]; exact hlt), Array.getElem_modify_self, hk]
  rfl
theorem BoxN.below {W W' : World} {b C : Nat} {k : Int} {nm : ByteArray} {up sz tm : Int} {tx : ByteArray} {kv : Value} (h : BoxN W b k nm up sz tm tx kv) (hb : Below C W W') (hC : b < C) : BoxN W' b k nm up sz tm tx kv := (hb.block b hC).trans h
theorem BoxN.lt {W : World} {b : Nat} {k : Int} {nm : ByteArray} {up sz tm : Int} {tx : ByteArray} {kv : Value} (h : BoxN W b k nm up sz tm tx kv) : b < W.heap.size := (Array.getElem?_eq_some_iff.1 h).1

def FieldsPost (b : Nat) (nm : ByteArray) (up : Int) (kv : Value) (w : World) (e : Ending) (w' : World) : Prop :=
  ∃ (ok : Bool) (k sz tm : Int) (tx : ByteArray), e = .returned (.bool ok) ∧ BoxN w' b k nm up sz tm tx kv ∧ tx.size ≤ 20000 ∧ Below b w w'
theorem fields_mk {b : Nat} {nm : ByteArray} {up : Int} {kv : Value} {w w' : World} {ok : Bool} {k sz tm : Int} {tx : ByteArray} (h : BoxN w' b k nm up sz tm tx kv) (ht : tx.size ≤ 20000) (hb : Below b w w') : FieldsPost b nm up kv w (.returned (.bool ok)) w' := ⟨ok, k, sz, tm, tx, rfl, h, ht, hb⟩

set_option maxRecDepth 100000 in
set_option maxHeartbeats 2000000 in
theorem fields_any (b g off cap : Nat) (ys : List ByteArray) (k : Int) (nm : ByteArray) (up sz tm : Int) (tx : ByteArray) (kv : Value) (w : World) (hbox : BoxN w b k nm up sz tm tx kv) (ht : tx.size ≤ 20000) (hg : g < b)
    (hx : ∀ (j : Nat) (x : ByteArray), ys[j]? = some x → w.cell? ⟨g, off + j, none⟩ = some (.string x)) (hsz : ∀ x ∈ ys, x.size ≤ 20000) (hl : ys.length ≤ 1000000) :
    Calls Tryd.prog 39 #[.pointer (some ⟨b, 0, none⟩), .slice (some ⟨g, off, none⟩) ys.length cap] w (FieldsPost b nm up kv w) := by
  obtain ⟨c0, c1, c2, c3, c4, c5, c6, cf⟩ := hbox.cells
  have f0 := cf 0
  have f3 := cf 3
  have f4 := cf 4
  have f5 := cf 5
  have HBX := hide hbox
  have HX := hide hx
  have HS := hide hsz
  clear cf hbox hx hsz
  have hbl := (unhide HBX).lt
  have hgb : ¬ g = b := by omega
  have hbg : ¬ b = g := by omega
  cases d100 : (k == 100)
  · cases d120 : (k == 120)
    · cases d102 : (k == 102)
      · cases d116 : (k == 116)
        · cases d108 : (k == 108)
          · go_enter Tryd.func39, Tryd.ntmps39
            go_wp2
            go_ret
            exact fields_mk (unhide HBX) ht (Below.refl _ _)
          · by_cases hn : ys.length = 1
            · obtain ⟨y0, rfl⟩ : ∃ a, ys = [a] := by
                match ys, hn with
                | [a], _ => exact ⟨a, rfl⟩
              have x0 : w.cell? ⟨g, off, none⟩ = some (.string y0) := (unhide HX) 0 y0 rfl
              have z0 := (unhide HS) y0 (by simp)
              go_enter Tryd.func39, Tryd.ntmps39
              go_wp2_with fail
              refine (field_any y0 _ (by omega)).mono ?_
              rintro e w1 ⟨r, ok, rfl, hr, hb1⟩
              have hbox1 := (unhide HBX).below hb1 hbl
              obtain ⟨e0, e1, e2, e3, e4, e5, e6, ef⟩ := hbox1.cells
              have ef5 := ef 5
              have HBB : Hid (Below b w w1) := hb1.mono (by omega)
              go_wp2
              all_goals go_ret
              all_goals exact fields_mk (hbox1.set5 r) (by omega) ((unhide HBB).setCell (p := ⟨b, 5, none⟩) (Nat.le_refl _) _)
            · have hnn : ((ys.length : Int) != 1) = true := by
                rw [bne_iff_ne]; omega
              go_enter Tryd.func39, Tryd.ntmps39
              go_wp2
              go_ret
              exact fields_mk (unhide HBX) ht (Below.refl _ _)
        · by_cases hn : ys.length = 2
          · obtain ⟨y0, y1, rfl⟩ : ∃ a b, ys = [a, b] := by
              match ys, hn with
              | [a, b], _ => exact ⟨a, b, rfl⟩
            have x0 : w.cell? ⟨g, off, none⟩ = some (.string y0) := (unhide HX) 0 y0 rfl
            have x1 := (unhide HX) 1 y1 rfl
            have z0 := (unhide HS) y0 (by simp)
            have z1 := (unhide HS) y1 (by simp)
            go_enter Tryd.func39, Tryd.ntmps39
            go_wp2_with fail
            refine (num_any y0 _ (by omega)).mono ?_
            rintro e w' ⟨⟨n0, rfl⟩, rfl⟩
            go_wp2_with fail
            refine (field_any y1 _ (by omega)).mono ?_
            rintro e w1 ⟨r, ok, rfl, hr, hb1⟩
            have hbox1 := ((unhide HBX).set4 n0).below hb1 (by simp; omega)
            obtain ⟨e0, e1, e2, e3, e4, e5, e6, ef⟩ := hbox1.cells
            have ef0 := ef 0
            have ef3 := ef 3
            have ef5 := ef 5
            have HBB : Hid (Below b w' w1) := ((Below.refl b w').setCell (p := ⟨b, 4, none⟩) (Nat.le_refl _) (.int .i64 n0)).trans (hb1.mono (by simp; omega))
            go_wp2
            all_goals go_ret
            all_goals exact fields_mk (((hbox1.set0 102).set5 r).set3 _) (by omega) ((((unhide HBB).setCell (p := ⟨b, 0, none⟩) (Nat.le_refl _) _).setCell (p := ⟨b, 5, none⟩) (Nat.le_refl _) _).setCell (p := ⟨b, 3, none⟩) (Nat.le_refl _) _)
          · have hnn : ((ys.length : Int) != 2) = true := by
              rw [bne_iff_ne]; omega
            go_enter Tryd.func39, Tryd.ntmps39
            go_wp2
            go_ret
            exact fields_mk (unhide HBX) ht (Below.refl _ _)
      · by_cases hn : ys.length = 2
        · obtain ⟨y0, y1, rfl⟩ : ∃ a b, ys = [a, b] := by
            match ys, hn with
            | [a, b], _ => exact ⟨a, b, rfl⟩
          have x0 : w.cell? ⟨g, off, none⟩ = some (.string y0) := (unhide HX) 0 y0 rfl
          have x1 := (unhide HX) 1 y1 rfl
          have z0 := (unhide HS) y0 (by simp)
          have z1 := (unhide HS) y1 (by simp)
          go_enter Tryd.func39, Tryd.ntmps39
          go_wp2_with fail
          refine (num_any y0 _ (by omega)).mono ?_
          rintro e w' ⟨⟨n0, rfl⟩, rfl⟩
          go_wp2_with fail
          refine (num_any y1 _ (by omega)).mono ?_
          rintro e w' ⟨⟨n1, rfl⟩, rfl⟩
          go_wp2
          all_goals go_ret
          all_goals exact fields_mk (((unhide HBX).set3 n0).set4 n1) ht (((Below.refl _ _).setCell (p := ⟨b, 3, none⟩) (Nat.le_refl _) _).setCell (p := ⟨b, 4, none⟩) (Nat.le_refl _) _)
        · have hnn : ((ys.length : Int) != 2) = true := by
            rw [bne_iff_ne]; omega
          go_enter Tryd.func39, Tryd.ntmps39
          go_wp2
          go_ret
          exact fields_mk (unhide HBX) ht (Below.refl _ _)
    · go_enter Tryd.func39, Tryd.ntmps39
      go_wp2
      go_ret
      exact fields_mk (unhide HBX) ht (Below.refl _ _)
  · go_enter Tryd.func39, Tryd.ntmps39
    go_wp2
    go_ret
    exact fields_mk (unhide HBX) ht (Below.refl _ _)
end Go.Proofs.YtehbjabneocflaaDoor
