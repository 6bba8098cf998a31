/- The program's plainByte. -/
import Derived.Test.YtconbmfbokpklaaGreatDoorRead
namespace Go.Proofs.YtconbmfbokpklaaGreatDoor
open Go.RowKit

/-- What a field's beginning stands for: a byte, and how many bytes do so; none. -/
def PB (s : ByteArray) (c : UInt8) (n : Nat) : Prop := (n = 0 ∧ fieldD s.data.toList = none) ∨ (1 ≤ n ∧ n ≤ s.size ∧ fieldD s.data.toList = (fieldD (s.data.toList.drop n)).map (fun t => c :: t))
def PBPost (s : ByteArray) (w : World) (e : Ending) (w' : World) : Prop := ∃ (c : UInt8) (n : Nat), e = .returned (.tuple #[.int .u8 (c.toNat : Int), .int .i64 (n : Int)]) ∧ PB s c n ∧ ∃ q, w' = w.drewN q
theorem pb_mk {s : ByteArray} {w : World} {q : Nat} (c : UInt8) (n : Nat) (h : PB s c n) : PBPost s w (.returned (.tuple #[.int .u8 (c.toNat : Int), .int .i64 (n : Int)])) (w.drewN q) := ⟨c, n, rfl, h, q, rfl⟩
theorem idx_plain (c : UInt8) : (Lib.indexByte [92, 9, 10, 0] c = -1 ∧ ¬ c = 92 ∧ ¬ c = 9 ∧ ¬ c = 10 ∧ ¬ c = 0) ∨ (0 ≤ Lib.indexByte [92, 9, 10, 0] c ∧ (c = 92 ∨ c = 0 ∨ c = 9 ∨ c = 10)) := by
  rcases idx_cases c ([92, 9, 10, 0] : List UInt8) with ⟨e, hn⟩ | ⟨p, r, e, _, hi⟩
  · left
    simp at hn
    exact ⟨e, hn.1, hn.2.1, hn.2.2.1, hn.2.2.2⟩
  · right
    refine ⟨by rw [hi]; omega, ?_⟩
    have hm : c ∈ ([92, 9, 10, 0] : List UInt8) := by rw [e]; simp
    simp at hm
    rcases hm with h | h | h | h
    · exact .inl h
    · exact .inr (.inr (.inl h))
    · exact .inr (.inr (.inr h))
    · exact .inr (.inl h)
theorem idx_sign (d : UInt8) : (Lib.indexByte [92, 116, 110, 48] d = -1 ∧ escD d = none) ∨ (d = 92 ∧ Lib.indexByte [92, 116, 110, 48] d = 0) ∨ (d = 116 ∧ Lib.indexByte [92, 116, 110, 48] d = 1) ∨ (d = 110 ∧ Lib.indexByte [92, 116, 110, 48] d = 2) ∨ (d = 48 ∧ Lib.indexByte [92, 116, 110, 48] d = 3) := by
  rcases idx_cases d ([92, 116, 110, 48] : List UInt8) with ⟨e, hn⟩ | ⟨p, r, e, _, _⟩
  · left
    simp at hn
    refine ⟨e, ?_⟩
    unfold escD
    rw [if_neg hn.1, if_neg hn.2.1, if_neg hn.2.2.1, if_neg hn.2.2.2]
  · right
    have hm : d ∈ ([92, 116, 110, 48] : List UInt8) := by rw [e]; simp
    simp at hm
    rcases hm with rfl | rfl | rfl | rfl
    · exact .inl ⟨rfl, by decide⟩
    · exact .inr (.inl ⟨rfl, by decide⟩)
    · exact .inr (.inr (.inl ⟨rfl, by decide⟩))
    · exact .inr (.inr (.inr ⟨rfl, by decide⟩))
theorem list_head {s : ByteArray} (h : 1 ≤ s.size) : s.data.toList = s[0] :: s.data.toList.drop 1 := by
  have := drop_get s 0 (by omega)
  rw [List.drop_zero] at this; exact this
set_option maxHeartbeats 2000000 in
set_option maxRecDepth 100000 in
theorem plainByte_any (s : ByteArray) (w : World) (h : 1 ≤ s.size) (hs : s.size ≤ 1000000) : Calls Tryz.prog 116 #[.string s] w (PBPost s w) := by
  have hd := list_head h
  have hbk : ((s[0].toNat : Int)).toNat.toUInt8 = s[0] := by simp
  have HI := hide (fun w => Tryz.strings_IndexByte ⟨#[92, 9, 10, 0]⟩ (s[0].toNat : Int) w)
  rw [hbk] at HI
  have hpos : 0 < s.size := by omega
  have h00 : (0 : Int) < (s.size : Int) := by omega
  rcases idx_plain s[0] with ⟨hi, n92, n9, n10, n0⟩ | ⟨hi, hin⟩
  · have HP : Hid (PB s s[0] 1) := .inr ⟨Nat.le_refl _, by omega, by rw [hd]; simpa using field_plain _ n0 n9 n10 n92⟩
    have HI2 : Hid (∀ w, Calls Tryz.prog 80 #[.string ⟨#[92, 9, 10, 0]⟩, .int .u8 (s[0].toNat : Int)] w fun e w' => e = .returned (.int .i64 (-1)) ∧ w' = w) := by
      intro w; have := (unhide HI) w; rw [← hi]; exact this
    clear HI hi hd hbk n92 n9 n10 n0
    go_enter Tryz.func116, Tryz.ntmps116
    go_wp2_with (go_at_call 80; refine ((unhide HI2) _).mono ?_; rintro e w' ⟨rfl, rfl⟩)
    go_ret2
    exact ⟨s[0], 1, rfl, HP.out, 0, rfl⟩
  · obtain ⟨z, hz⟩ : ∃ z : Int, Lib.indexByte [92, 9, 10, 0] s[0] = z := ⟨_, rfl⟩
    rw [hz] at hi
    have HI2 : Hid (∀ w, Calls Tryz.prog 80 #[.string ⟨#[92, 9, 10, 0]⟩, .int .u8 (s[0].toNat : Int)] w fun e w' => e = .returned (.int .i64 z) ∧ w' = w) := by
      intro w; have := (unhide HI) w; rw [← hz]; exact this
    have hzn : ¬ z < 0 := by omega
    clear HI hz hbk
    by_cases h92 : s[0] = 92
    · have hb92 : ((s[0].toNat : Int) != 92) = false := by rw [h92]; decide
      rw [h92] at hd
      by_cases h1 : s.size = 1
      · have h1b : ((s.size : Int) == 1) = true := by rw [beq_iff_eq]; omega
        have HP : Hid (PB s 0 0) := .inl ⟨rfl, by rw [hd, List.drop_of_length_le (by simp; omega)]; exact field_end⟩
        clear hd hin h92
        go_enter Tryz.func116, Tryz.ntmps116
        go_wp2_with (go_at_call 80; refine ((unhide HI2) _).mono ?_; rintro e w' ⟨rfl, rfl⟩)
        go_ret2
        exact ⟨0, 0, rfl, HP.out, 0, rfl⟩
      · have h1b : ((s.size : Int) == 1) = false := by rw [beq_eq_false_iff_ne]; omega
        have h2 : 1 < s.size := by omega
        have hd2 : s.data.toList = (92 : UInt8) :: s[1] :: s.data.toList.drop 2 := by have e := drop_get s 1 h2; rw [e] at hd; exact hd
        have hbk1 : ((s[1].toNat : Int)).toNat.toUInt8 = s[1] := by simp
        have HJ := hide (fun w => Tryz.strings_IndexByte ⟨#[92, 116, 110, 48]⟩ (s[1].toNat : Int) w)
        rw [hbk1] at HJ
        have key : ∀ (e : UInt8), escD s[1] = some e → PB s e 2 := fun e he => .inr ⟨by omega, by omega, by
          conv => lhs; rw [hd2]
          rw [field_esc _ he]⟩
        rcases idx_sign s[1] with ⟨hj, hno⟩ | ⟨hd1, hj⟩ | ⟨hd1, hj⟩ | ⟨hd1, hj⟩ | ⟨hd1, hj⟩
        · have HP : Hid (PB s 0 0) := .inl ⟨rfl, by rw [hd2]; exact field_esc_no _ hno⟩
          have HJ2 : Hid (∀ w, Calls Tryz.prog 80 #[.string ⟨#[92, 116, 110, 48]⟩, .int .u8 (s[1].toNat : Int)] w fun e w' => e = .returned (.int .i64 (-1)) ∧ w' = w) := by
            intro w; have := (unhide HJ) w; rw [← hj]; exact this
          clear hd hd2 hin h92 HJ hj key hno hbk1
          go_enter Tryz.func116, Tryz.ntmps116
          go_wp2_with (first | (go_at_call 80; refine ((unhide HI2) _).mono ?_; rintro e w' ⟨rfl, rfl⟩) | (go_at_call 80; refine ((unhide HJ2) _).mono ?_; rintro e w' ⟨rfl, rfl⟩))
          go_ret2
          exact ⟨0, 0, rfl, HP.out, 0, rfl⟩
        · have HP : Hid (PB s 92 2) := key 92 (by rw [hd1]; rfl)
          have HJ2 : Hid (∀ w, Calls Tryz.prog 80 #[.string ⟨#[92, 116, 110, 48]⟩, .int .u8 (s[1].toNat : Int)] w fun e w' => e = .returned (.int .i64 0) ∧ w' = w) := by
            intro w; have := (unhide HJ) w; rw [← hj]; exact this
          clear hd hd2 hin h92 HJ hj key hbk1 hd1
          go_enter Tryz.func116, Tryz.ntmps116
          go_wp2_with (first | (go_at_call 80; refine ((unhide HI2) _).mono ?_; rintro e w' ⟨rfl, rfl⟩) | (go_at_call 80; refine ((unhide HJ2) _).mono ?_; rintro e w' ⟨rfl, rfl⟩))
          go_ret2
          exact ⟨92, 2, rfl, HP.out, 0, rfl⟩
        · have HP : Hid (PB s 9 2) := key 9 (by rw [hd1]; rfl)
          have HJ2 : Hid (∀ w, Calls Tryz.prog 80 #[.string ⟨#[92, 116, 110, 48]⟩, .int .u8 (s[1].toNat : Int)] w fun e w' => e = .returned (.int .i64 1) ∧ w' = w) := by
            intro w; have := (unhide HJ) w; rw [← hj]; exact this
          clear hd hd2 hin h92 HJ hj key hbk1 hd1
          go_enter Tryz.func116, Tryz.ntmps116
          go_wp2_with (first | (go_at_call 80; refine ((unhide HI2) _).mono ?_; rintro e w' ⟨rfl, rfl⟩) | (go_at_call 80; refine ((unhide HJ2) _).mono ?_; rintro e w' ⟨rfl, rfl⟩))
          go_ret2
          exact ⟨9, 2, rfl, HP.out, 0, rfl⟩
        · have HP : Hid (PB s 10 2) := key 10 (by rw [hd1]; rfl)
          have HJ2 : Hid (∀ w, Calls Tryz.prog 80 #[.string ⟨#[92, 116, 110, 48]⟩, .int .u8 (s[1].toNat : Int)] w fun e w' => e = .returned (.int .i64 2) ∧ w' = w) := by
            intro w; have := (unhide HJ) w; rw [← hj]; exact this
          clear hd hd2 hin h92 HJ hj key hbk1 hd1
          go_enter Tryz.func116, Tryz.ntmps116
          go_wp2_with (first | (go_at_call 80; refine ((unhide HI2) _).mono ?_; rintro e w' ⟨rfl, rfl⟩) | (go_at_call 80; refine ((unhide HJ2) _).mono ?_; rintro e w' ⟨rfl, rfl⟩))
          go_ret2
          exact ⟨10, 2, rfl, HP.out, 0, rfl⟩
        · have HP : Hid (PB s 0 2) := key 0 (by rw [hd1]; rfl)
          have HJ2 : Hid (∀ w, Calls Tryz.prog 80 #[.string ⟨#[92, 116, 110, 48]⟩, .int .u8 (s[1].toNat : Int)] w fun e w' => e = .returned (.int .i64 3) ∧ w' = w) := by
            intro w; have := (unhide HJ) w; rw [← hj]; exact this
          clear hd hd2 hin h92 HJ hj key hbk1 hd1
          go_enter Tryz.func116, Tryz.ntmps116
          go_wp2_with (first | (go_at_call 80; refine ((unhide HI2) _).mono ?_; rintro e w' ⟨rfl, rfl⟩) | (go_at_call 80; refine ((unhide HJ2) _).mono ?_; rintro e w' ⟨rfl, rfl⟩))
          go_ret2
          exact ⟨0, 2, rfl, HP.out, 0, rfl⟩
    · have hb92 : ((s[0].toNat : Int) != 92) = true := by
        rw [bne_iff_ne]; intro e; exact h92 (UInt8.toNat_inj.1 (by have : (92 : UInt8).toNat = 92 := rfl; omega))
      have HP : Hid (PB s 0 0) := .inl ⟨rfl, by
        rw [hd]
        rcases hin with h | h
        · exact absurd h h92
        · exact field_bad _ h⟩
      clear hd hin h92
      go_enter Tryz.func116, Tryz.ntmps116
      go_wp2_with (go_at_call 80; refine ((unhide HI2) _).mono ?_; rintro e w' ⟨rfl, rfl⟩)
      go_ret2
      exact ⟨0, 0, rfl, HP.out, 0, rfl⟩

end Go.Proofs.YtconbmfbokpklaaGreatDoor
