/- The program's escape. -/
import Derived.Test.YtaepamaloepkbaaGreatDoorPrRef
import Derived.Test.YtaepamaloepkbaaGreatDoorText
namespace Go.Proofs.YtaepamaloepkbaaGreatDoor
open Go.RowKit

theorem idx_is (c : UInt8) : (c = 92 ∧ Lib.indexByte [92, 9, 10, 0] c = 0) ∨ (c = 9 ∧ Lib.indexByte [92, 9, 10, 0] c = 1) ∨ (c = 10 ∧ Lib.indexByte [92, 9, 10, 0] c = 2) ∨ (c = 0 ∧ Lib.indexByte [92, 9, 10, 0] c = 3) ∨ (¬ c = 92 ∧ ¬ c = 9 ∧ ¬ c = 10 ∧ ¬ c = 0 ∧ Lib.indexByte [92, 9, 10, 0] c = -1) := by
  by_cases h1 : c = 92
  · subst h1; exact .inl ⟨rfl, by decide⟩
  · by_cases h2 : c = 9
    · subst h2; exact .inr (.inl ⟨rfl, by decide⟩)
    · by_cases h3 : c = 10
      · subst h3; exact .inr (.inr (.inl ⟨rfl, by decide⟩))
      · by_cases h4 : c = 0
        · subst h4; exact .inr (.inr (.inr (.inl ⟨rfl, by decide⟩)))
        · refine .inr (.inr (.inr (.inr ⟨h1, h2, h3, h4, ?_⟩)))
          have g1 : ¬ (92 : UInt8) = c := fun e => h1 e.symm
          have g2 : ¬ (9 : UInt8) = c := fun e => h2 e.symm
          have g3 : ¬ (10 : UInt8) = c := fun e => h3 e.symm
          have g4 : ¬ (0 : UInt8) = c := fun e => h4 e.symm
          simp [Lib.indexByte, g1, g2, g3, g4]
theorem idx_any (c : UInt8) (w : World) : Calls Tryz.prog 80 #[.string ⟨#[92, 9, 10, 0]⟩, .int .u8 (c.toNat : Int)] w fun e w' => e = .returned (.int .i64 (Lib.indexByte [92, 9, 10, 0] c)) ∧ w' = w := by
  have h := Tryz.strings_IndexByte ⟨#[92, 9, 10, 0]⟩ (c.toNat : Int) w
  rw [show ((c.toNat : Int).toNat).toUInt8 = c from by simp] at h
  exact h
theorem cells_push {B b : Nat} {xs : List UInt8} {c : UInt8} {w : World} (h : Lib.BuilderAt 65 5 B b (.pointer (some ⟨b, 0, none⟩)) (Lib.byteCells xs ++ [.int .u8 (c.toNat : Int)]) w) : Lib.IsBuilder 65 5 B b (Lib.byteCells (xs ++ [c])) w := by
  refine .inr ?_
  have e : Lib.byteCells (xs ++ [c]) = Lib.byteCells xs ++ [.int .u8 (c.toNat : Int)] := by rw [bytes_cells, bytes_cells]; simp [u8s]
  rw [e]; exact h
set_option maxRecDepth 100000 in
set_option maxHeartbeats 2000000 in
theorem escape_any (s : ByteArray) (w : World) (hs : s.size ≤ 100000) :
    Calls Tryz.prog 55 #[.string s] w fun e w' => e = .returned (.string (bs (escL s.data.toList))) ∧ Below w.heap.size w w' := by
  go_enter Tryz.func55, Tryz.ntmps55
  go_wp2
  obtain ⟨W0, hW0⟩ : ∃ W0, w.alloc (.cells #[.pointer none, .slice none 0 0] 65) = W0 := ⟨_, rfl⟩
  rw [hW0]
  have hbd0 : Lib.IsBuilder 65 5 w.heap.size w.heap.size [] W0 := by rw [← hW0]; exact builder_new w
  have hbl0 : Below w.heap.size w W0 := by rw [← hW0]; exact (Below.refl _ _).alloc (Nat.le_refl _) _
  clear hW0
  go_loopw [8] (fun iv wr => ∃ (k : Nat) (xs : List UInt8), k ≤ s.size ∧ iv = .int .i64 k ∧ EscSt s k xs ∧ Lib.IsBuilder 65 5 w.heap.size w.heap.size (Lib.byteCells xs) wr ∧ Below w.heap.size w wr) (fun iv _ => s.size - (intOf iv).toNat)
  case atStart => exact ⟨0, [], Nat.zero_le _, rfl, rfl, hbd0, hbl0⟩
  case round =>
    obtain ⟨k, xs, hk, rfl, hst, hbd, hbr⟩ := hrel
    have hxl := escSt_len hst
    have hBs := hbr.size
    have HBD := hide hbd
    clear hbd hbd0 hbl0
    by_cases hlt : k < s.size
    · have HX := hide (escSt_step hst hlt)
      have hltI : (k : Int) < (s.size : Int) := by omega
      have HI := hide (idx_any s[k] wr)
      clear hst
      rcases idx_is s[k] with ⟨hc, hi⟩ | ⟨hc, hi⟩ | ⟨hc, hi⟩ | ⟨hc, hi⟩ | ⟨n1, n2, n3, n4, hi⟩
      · rw [esc92 hc] at HX
        clear hc
        rw [hi] at HI
        clear hi
        go_wp2_with fail
        refine (unhide HI).mono ?_
        rintro e ww ⟨rfl, hww⟩
        rw [hww]; clear hww
        go_wp2_with fail
        refine (writeByte_any w.heap.size w.heap.size _ 92 _ (unhide HBD) (by rw [bytes_cells]; simp [u8s]; omega) hBs).mono ?_
        rintro e w2 ⟨rfl, hbd2, hb2⟩
        have HB2 := hide (hbr.trans hb2)
        have HD2 : Hid (Lib.IsBuilder 65 5 w.heap.size w.heap.size (Lib.byteCells (xs ++ [92])) w2) := cells_push (c := 92) hbd2
        clear hbd2 hb2
        go_wp2_with fail
        refine (writeByte_any w.heap.size w.heap.size _ 92 _ (unhide HD2) (by rw [bytes_cells]; simp [u8s]; omega) HB2.out.size).mono ?_
        rintro e w3 ⟨rfl, hbd3, hb3⟩
        have HB3 := hide (HB2.out.trans hb3)
        have HD3 : Hid (Lib.IsBuilder 65 5 w.heap.size w.heap.size (Lib.byteCells (xs ++ [92] ++ [92])) w3) := cells_push (c := 92) hbd3
        clear hbd3 hb3
        go_wp2
        go_roundw
        case rel => exact ⟨k + 1, xs ++ [92] ++ [92], by omega, by go_num, by rw [List.append_assoc]; exact HX.out, HD3.out, HB3.out⟩
        case measure => simp [intOf]; omega
      · rw [esc9 hc] at HX
        clear hc
        rw [hi] at HI
        clear hi
        go_wp2_with fail
        refine (unhide HI).mono ?_
        rintro e ww ⟨rfl, hww⟩
        rw [hww]; clear hww
        go_wp2_with fail
        refine (writeByte_any w.heap.size w.heap.size _ 92 _ (unhide HBD) (by rw [bytes_cells]; simp [u8s]; omega) hBs).mono ?_
        rintro e w2 ⟨rfl, hbd2, hb2⟩
        have HB2 := hide (hbr.trans hb2)
        have HD2 : Hid (Lib.IsBuilder 65 5 w.heap.size w.heap.size (Lib.byteCells (xs ++ [92])) w2) := cells_push (c := 92) hbd2
        clear hbd2 hb2
        go_wp2_with fail
        refine (writeByte_any w.heap.size w.heap.size _ 116 _ (unhide HD2) (by rw [bytes_cells]; simp [u8s]; omega) HB2.out.size).mono ?_
        rintro e w3 ⟨rfl, hbd3, hb3⟩
        have HB3 := hide (HB2.out.trans hb3)
        have HD3 : Hid (Lib.IsBuilder 65 5 w.heap.size w.heap.size (Lib.byteCells (xs ++ [92] ++ [116])) w3) := cells_push (c := 116) hbd3
        clear hbd3 hb3
        go_wp2
        go_roundw
        case rel => exact ⟨k + 1, xs ++ [92] ++ [116], by omega, by go_num, by rw [List.append_assoc]; exact HX.out, HD3.out, HB3.out⟩
        case measure => simp [intOf]; omega
      · rw [esc10 hc] at HX
        clear hc
        rw [hi] at HI
        clear hi
        go_wp2_with fail
        refine (unhide HI).mono ?_
        rintro e ww ⟨rfl, hww⟩
        rw [hww]; clear hww
        go_wp2_with fail
        refine (writeByte_any w.heap.size w.heap.size _ 92 _ (unhide HBD) (by rw [bytes_cells]; simp [u8s]; omega) hBs).mono ?_
        rintro e w2 ⟨rfl, hbd2, hb2⟩
        have HB2 := hide (hbr.trans hb2)
        have HD2 : Hid (Lib.IsBuilder 65 5 w.heap.size w.heap.size (Lib.byteCells (xs ++ [92])) w2) := cells_push (c := 92) hbd2
        clear hbd2 hb2
        go_wp2_with fail
        refine (writeByte_any w.heap.size w.heap.size _ 110 _ (unhide HD2) (by rw [bytes_cells]; simp [u8s]; omega) HB2.out.size).mono ?_
        rintro e w3 ⟨rfl, hbd3, hb3⟩
        have HB3 := hide (HB2.out.trans hb3)
        have HD3 : Hid (Lib.IsBuilder 65 5 w.heap.size w.heap.size (Lib.byteCells (xs ++ [92] ++ [110])) w3) := cells_push (c := 110) hbd3
        clear hbd3 hb3
        go_wp2
        go_roundw
        case rel => exact ⟨k + 1, xs ++ [92] ++ [110], by omega, by go_num, by rw [List.append_assoc]; exact HX.out, HD3.out, HB3.out⟩
        case measure => simp [intOf]; omega
      · rw [esc0 hc] at HX
        clear hc
        rw [hi] at HI
        clear hi
        go_wp2_with fail
        refine (unhide HI).mono ?_
        rintro e ww ⟨rfl, hww⟩
        rw [hww]; clear hww
        go_wp2_with fail
        refine (writeByte_any w.heap.size w.heap.size _ 92 _ (unhide HBD) (by rw [bytes_cells]; simp [u8s]; omega) hBs).mono ?_
        rintro e w2 ⟨rfl, hbd2, hb2⟩
        have HB2 := hide (hbr.trans hb2)
        have HD2 : Hid (Lib.IsBuilder 65 5 w.heap.size w.heap.size (Lib.byteCells (xs ++ [92])) w2) := cells_push (c := 92) hbd2
        clear hbd2 hb2
        go_wp2_with fail
        refine (writeByte_any w.heap.size w.heap.size _ 48 _ (unhide HD2) (by rw [bytes_cells]; simp [u8s]; omega) HB2.out.size).mono ?_
        rintro e w3 ⟨rfl, hbd3, hb3⟩
        have HB3 := hide (HB2.out.trans hb3)
        have HD3 : Hid (Lib.IsBuilder 65 5 w.heap.size w.heap.size (Lib.byteCells (xs ++ [92] ++ [48])) w3) := cells_push (c := 48) hbd3
        clear hbd3 hb3
        go_wp2
        go_roundw
        case rel => exact ⟨k + 1, xs ++ [92] ++ [48], by omega, by go_num, by rw [List.append_assoc]; exact HX.out, HD3.out, HB3.out⟩
        case measure => simp [intOf]; omega
      · rw [escNo n1 n2 n3 n4] at HX
        clear n1 n2 n3 n4
        rw [hi] at HI
        clear hi
        go_wp2_with fail
        refine (unhide HI).mono ?_
        rintro e ww ⟨rfl, hww⟩
        rw [hww]; clear hww
        go_wp2_with fail
        refine (writeByte_any w.heap.size w.heap.size _ (s[k].toNat : Int) _ (unhide HBD) (by rw [bytes_cells]; simp [u8s]; omega) hBs).mono ?_
        rintro e w2 ⟨rfl, hbd2, hb2⟩
        have HB2 := hide (hbr.trans hb2)
        have HD2 : Hid (Lib.IsBuilder 65 5 w.heap.size w.heap.size (Lib.byteCells (xs ++ [s[k]])) w2) := cells_push hbd2
        clear hbd2 hb2
        go_wp2
        go_roundw
        case rel => exact ⟨k + 1, xs ++ [s[k]], by omega, by go_num, HX.out, HD2.out, HB2.out⟩
        case measure => simp [intOf]; omega
    · obtain rfl : k = s.size := by omega
      have HE := hide (escSt_end hst)
      clear hst
      go_wp2_with fail
      refine (Tryz.Builder_String_any w.heap.size w.heap.size xs _ (unhide HBD) hBs).mono ?_
      rintro e w2 ⟨rfl, hb2⟩
      have HB2 := hide (hbr.trans hb2)
      clear hb2
      go_wp2
      go_ret
      exact ⟨by rw [← HE.out]; rfl, HB2.out⟩
end Go.Proofs.YtaepamaloepkbaaGreatDoor
