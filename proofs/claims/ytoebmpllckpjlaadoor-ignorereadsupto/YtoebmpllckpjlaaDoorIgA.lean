/- What a line of rules says, plainly; cutBlanks. -/
import Derived.Test.YtoebmpllckpjlaaDoorGbName
import Derived.Test.YtoebmpllckpjlaaDoorParts
import Derived.Lib.TrimByte
namespace Go.Proofs.YtoebmpllckpjlaaDoor
open Go.RowKit Go.Maps

/-- A line without the blanks at its end that do not count. -/
def cutBlanksL (l : List UInt8) : List UInt8 :=
  if ((Lib.trimRightB l 32).length - (Lib.trimRightB (Lib.trimRightB l 32) 92).length) % 2 = 1 ∧ (Lib.trimRightB l 32).length < l.length then l.take ((Lib.trimRightB l 32).length + 1) else Lib.trimRightB l 32
theorem trim_len (l : List UInt8) (c : UInt8) : (Lib.trimRightB l c).length ≤ l.length := by
  unfold Lib.trimRightB
  rw [List.length_reverse]
  have := (List.dropWhile_sublist (l := l.reverse) (· == c)).length_le
  rw [List.length_reverse] at this
  exact this
theorem bs_size (l : List UInt8) : (⟨l.toArray⟩ : ByteArray).size = l.length := by
  show l.toArray.size = _
  simp
set_option maxRecDepth 100000 in
set_option maxHeartbeats 1000000 in
theorem cutBlanks_any (s : ByteArray) (w : World) (hs : s.size ≤ 1073741824) :
    Calls Tryd.prog 14 #[.string s] w fun e w' => e = .returned (.string (bs (cutBlanksL s.data.toList))) ∧ w' = w := by
  obtain ⟨B, hB⟩ : ∃ B : ByteArray, (⟨(Lib.trimRightB s.data.toList 32).toArray⟩ : ByteArray) = B := ⟨_, rfl⟩
  obtain ⟨C, hC⟩ : ∃ C : ByteArray, (⟨(Lib.trimRightB B.data.toList 92).toArray⟩ : ByteArray) = C := ⟨_, rfl⟩
  have sB : B.size = (Lib.trimRightB s.data.toList 32).length := by rw [← hB, bs_size]
  have dB : B.data.toList = Lib.trimRightB s.data.toList 32 := by rw [← hB]
  have sC : C.size = (Lib.trimRightB (Lib.trimRightB s.data.toList 32) 92).length := by rw [← hC, bs_size, dB]
  have lB : B.size ≤ s.size := by rw [sB, ← size_list s]; exact trim_len _ _
  have lC : C.size ≤ B.size := by rw [sC, sB]; exact trim_len _ _
  have h1 := Tryd.strings_TrimRight_one s 32 (by decide) w (by omega)
  have h2 := Tryd.strings_TrimRight_one B 92 (by decide) w (by omega)
  rw [hB] at h1
  rw [hC] at h2
  have HD := hide (⟨hB, sB, sC, dB⟩ : _ ∧ _ ∧ _ ∧ _)
  clear hB hC sB sC dB
  obtain ⟨d, hd⟩ : ∃ d : Nat, B.size = C.size + d := ⟨B.size - C.size, by omega⟩
  have hdI : (B.size : Int) - (C.size : Int) = (d : Int) := by omega
  have HDD := hide hd
  clear hd
  rcases Nat.mod_two_eq_zero_or_one d with hm | hm
  · have hmI : (d : Int).tmod 2 = 0 := by rw [Int.tmod_eq_emod_of_nonneg (by omega)]; omega
    go_enter Tryd.func14, Tryd.ntmps14
    go_wp2_with fail
    refine h1.mono ?_
    rintro e w' ⟨rfl, hw⟩
    rw [hw]
    clear hw
    go_wp2_with fail
    refine h2.mono ?_
    rintro e w2 ⟨rfl, hw⟩
    rw [hw]
    clear hw
    go_wp2
    go_ret
    refine ⟨?_, rfl⟩
    obtain ⟨hB, sB, sC, dB⟩ := HD.out
    have hn : ¬ (((Lib.trimRightB s.data.toList 32).length - (Lib.trimRightB (Lib.trimRightB s.data.toList 32) 92).length) % 2 = 1 ∧ (Lib.trimRightB s.data.toList 32).length < s.data.toList.length) := by
      rintro ⟨h, _⟩
      rw [← sB, ← sC] at h
      have := HDD.out
      omega
    unfold cutBlanksL
    rw [if_neg hn]
    show Ending.returned (.string B) = _
    rw [← hB]
    rfl
  · have hmI : (d : Int).tmod 2 = 1 := by rw [Int.tmod_eq_emod_of_nonneg (by omega)]; omega
    have hdm : ((Lib.trimRightB s.data.toList 32).length - (Lib.trimRightB (Lib.trimRightB s.data.toList 32) 92).length) % 2 = 1 := by
      obtain ⟨hB, sB, sC, dB⟩ := HD.out
      have := HDD.out
      rw [← sB, ← sC]
      omega
    have HM := hide hdm
    clear hdm
    by_cases hlt : B.size < s.size
    · have hltI : (B.size : Int) < (s.size : Int) := by omega
      have hle : (B.size : Int) + 1 ≤ (s.size : Int) := by omega
      have h0 : (0 : Int) ≤ (B.size : Int) + 1 := by omega
      go_enter Tryd.func14, Tryd.ntmps14
      go_wp2_with fail
      refine h1.mono ?_
      rintro e w' ⟨rfl, hw⟩
      rw [hw]
      clear hw
      go_wp2_with fail
      refine h2.mono ?_
      rintro e w2 ⟨rfl, hw⟩
      rw [hw]
      clear hw
      go_wp2
      go_ret
      refine ⟨?_, rfl⟩
      obtain ⟨hB, sB, sC, dB⟩ := HD.out
      have hsl := size_list s
      unfold cutBlanksL
      rw [if_pos ⟨HM.out, by rw [← sB, hsl]; exact hlt⟩, ← sB]
      show Ending.returned (.string (s.extract 0 (B.size + 1))) = _
      rw [extract_bs]
      simp
    · have hltI : ¬ (B.size : Int) < (s.size : Int) := by omega
      go_enter Tryd.func14, Tryd.ntmps14
      go_wp2_with fail
      refine h1.mono ?_
      rintro e w' ⟨rfl, hw⟩
      rw [hw]
      clear hw
      go_wp2_with fail
      refine h2.mono ?_
      rintro e w2 ⟨rfl, hw⟩
      rw [hw]
      clear hw
      go_wp2
      go_ret
      refine ⟨?_, rfl⟩
      obtain ⟨hB, sB, sC, dB⟩ := HD.out
      have hsl := size_list s
      unfold cutBlanksL
      rw [if_neg (by rintro ⟨_, h⟩; rw [← sB, hsl] at h; exact hlt h)]
      show Ending.returned (.string B) = _
      rw [← hB]
      rfl
end Go.Proofs.YtoebmpllckpjlaaDoor
