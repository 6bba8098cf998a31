/- The program's readText. -/
import Derived.Test.YtconbmfbokpklaaGreatDoorPByte
namespace Go.Proofs.YtconbmfbokpklaaGreatDoor
open Go.RowKit

/-- What readText does. -/
def RtPost (A : Ads) (b : Nat) (k : Int) (nm : ByteArray) (up sz tm : Int) (tx : ByteArray) (kv : Value) (r : Option ByteArray) (w : World) (e : Ending) (w' : World) : Prop :=
  e = .returned (errT A r.isSome).1 ∧ BoxP w' b k nm up sz tm (r.getD tx) kv ∧ w.grownBy w' (some b)
theorem builder_new (w : World) : Lib.IsBuilder 65 5 w.heap.size w.heap.size [] (w.alloc (.cells #[.pointer none, .slice none 0 0] 65)) :=
  .inl ⟨Nat.le_refl _, .slice none 0 0, World.alloc_heap_new w _, World.ownsRow_nil _ _ _ _, by simp [Value.ownBlock]⟩
theorem builder_drew {T e : TypeId} {B b : Nat} {bs : List Value} {w : World} {q : Nat} (h : Lib.IsBuilder T e B b bs w) : Lib.IsBuilder T e B b bs (w.drewN q) := h
theorem bytes_cells (xs : List UInt8) : Lib.byteCells xs = u8s xs := rfl
theorem isBuilder_len {T e : TypeId} {B b : Nat} {bs : List Value} {w : World} (h : Lib.IsBuilder T e B b bs w) : b < w.heap.size ∧ B ≤ b := by
  rcases h with ⟨hB, v, hb, _⟩ | ⟨hB, v, hb, _⟩
  · exact ⟨(Array.getElem?_eq_some_iff.1 hb).1, hB⟩
  · exact ⟨(Array.getElem?_eq_some_iff.1 hb).1, hB⟩
theorem grown_of_belowP {b : Nat} {w w' : World} (h : Below w.heap.size w w') : w.grownBy w' (some b) := ⟨h.os, h.tape, h.output, h.size, fun k hk _ => h.block k hk⟩
theorem grown_drewN {b : Nat} (w : World) (q : Nat) : w.grownBy (w.drewN q) (some b) := grown_of_belowP (below_drewN (Below.refl w.heap.size w) q)
set_option maxHeartbeats 2000000 in
set_option maxRecDepth 100000 in
theorem readText_any {C : Nat} {A : Ads} (s : ByteArray) (b : Nat) (k : Int) (nm : ByteArray) (up sz tm : Int) (tx : ByteArray) (kv : Value) (w : World) (hs : s.size ≤ 100000) (hbox : BoxP w b k nm up sz tm tx kv) (hsent : Sent C A w) (hC : C ≤ w.heap.size) :
    Calls Tryz.prog 88 #[.string s, .pointer (some ⟨b, 5, none⟩)] w (RtPost A b k nm up sz tm tx kv (textD s) w) := by
  have hblt := hbox.lt
  have HBX := hide hbox
  have HSE := hide hsent
  clear hbox hsent
  go_enter Tryz.func88, Tryz.ntmps88
  go_wp2
  obtain ⟨W0, hW0⟩ : ∃ W0, w.alloc (.cells #[.pointer none, .slice none 0 0] 65) = W0 := ⟨_, rfl⟩
  rw [hW0]
  have hbd0 : Lib.IsBuilder 65 5 w.heap.size w.heap.size [] W0 := by rw [← hW0]; exact builder_new w
  have hbl0 : Below w.heap.size w W0 := by rw [← hW0]; exact (Below.refl _ _).alloc (Nat.le_refl _) _
  clear hW0
  go_loopw [0] (fun sv wr => ∃ (n : Nat) (xs : List UInt8), n ≤ s.size ∧ sv = .string (bs (s.data.toList.drop n)) ∧ xs.length ≤ n ∧ FSt s n xs ∧ Lib.IsBuilder 65 5 w.heap.size w.heap.size (Lib.byteCells xs) wr ∧ Below w.heap.size w wr) (fun sv _ => strLen sv)
  case atStart => exact ⟨0, [], Nat.zero_le _, rfl, Nat.le_refl _, fst_zero s, hbd0, hbl0⟩
  case round =>
    obtain ⟨n, xs, hn, rfl, hxn, hst, hbd, hbr⟩ := hrel
    have HST := hide hst
    obtain ⟨r, hr⟩ : ∃ r, r = bs (s.data.toList.drop n) := ⟨_, rfl⟩
    have hrd : r.data.toList = s.data.toList.drop n := by rw [hr]; rfl
    have hrs : r.size = s.size - n := by rw [← size_list, hrd]; simp
    rw [← hr]
    have HRD := hide hrd
    have hc0 := ((unhide HSE).below (hbr.mono hC)).c0
    have hbx := (unhide HBX).below hbr hblt
    obtain ⟨_, _, _, _, _, d5, _, df⟩ := hbx.cells
    have f5 := df 5
    have HBD := hide hbd
    have HBXR := hide hbx
    clear hst hrd hr hbd hbx df
    have hBs := hbr.size
    cases hE : r.toList.isEmpty
    · have h1 := emp_size_no hE
      go_wp2_with fail
      refine (plainByte_any r _ h1 (by omega)).mono ?_
      rintro e w1 ⟨c, m, rfl, hpb, q, rfl⟩
      rcases hpb with ⟨rfl, hno⟩ | ⟨hm1, hm2, hsome⟩
      · have HR : Hid (textD s = none) := fst_none HST.out (by rw [← HRD.out]; exact hno)
        clear hno
        go_wp2
        go_ret
        rw [HR.out]
        exact ⟨rfl, unhide HBXR, (grown_of_belowP hbr).trans (grown_drewN _ q)⟩
      · have HX : Hid (FSt s (n + m) (xs ++ [c])) := fst_step HST.out (by rw [← HRD.out, hsome, HRD.out, List.drop_drop])
        have hmb : ((m : Int) == 0) = false := by rw [beq_eq_false_iff_ne]; omega
        clear hsome
        go_wp2_with fail
        refine (writeByte_any w.heap.size w.heap.size _ (c.toNat : Int) _ (builder_drew (q := q) (unhide HBD)) (by rw [bytes_cells]; simp [u8s]; omega) hBs).mono ?_
        rintro e w2 ⟨rfl, hbd2, hb2⟩
        have HB2 : Hid (Below w.heap.size w w2) := (below_drewN hbr q).trans hb2
        have HD2 : Hid (Lib.IsBuilder 65 5 w.heap.size w.heap.size (Lib.byteCells (xs ++ [c])) w2) := by
          refine .inr ?_
          have e : Lib.byteCells (xs ++ [c]) = Lib.byteCells xs ++ [.int .u8 (c.toNat : Int)] := by rw [bytes_cells, bytes_cells]; simp [u8s]
          rw [e]; exact hbd2
        clear hbd2 hb2
        go_wp2
        go_roundw
        case rel =>
          refine ⟨n + m, xs ++ [c], by omega, ?_, by simp; omega, HX.out, unhide HD2, unhide HB2⟩
          congr 1
          rw [extract_bs, HRD.out, List.drop_drop]
          congr 1
          exact List.take_of_length_le (by simp; omega)
        case measure => simp [strLen]; omega
    · have hz := emp_size hE
      obtain rfl : n = s.size := by omega
      have HR := hide (fst_end HST.out)
      go_wp2_with fail
      refine (Tryz.Builder_String_any w.heap.size w.heap.size xs _ (unhide HBD) hBs).mono ?_
      rintro e w2 ⟨rfl, hb2⟩
      have hbx2 := (unhide HBXR).below hb2 hblt
      obtain ⟨_, _, _, _, _, e5, _, ef⟩ := hbx2.cells
      have g5 := ef 5
      have HB2 : Hid (Below w.heap.size w w2) := hbr.trans hb2
      have HX2 := hide hbx2
      clear hbx2 ef hb2
      go_wp2
      go_ret
      rw [HR.out]
      exact ⟨rfl, (unhide HX2).set5 _, (grown_of_belowP (unhide HB2)).trans (set_grown _ _ _ _)⟩
end Go.Proofs.YtconbmfbokpklaaGreatDoor
