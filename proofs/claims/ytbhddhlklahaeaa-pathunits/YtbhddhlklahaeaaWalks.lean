import Derived.Test.YtbhddhlklahaeaaNums
namespace Go.Proofs.Ytbhddhlklahaeaa
open Go.RowKit

theorem numI_no {l : List UInt8} (h : good l = false) : numI l = 0 := by unfold numI; rw [h]; rfl
theorem numI_yes {l : List UInt8} (h : good l = true) : numI l = dval l := by unfold numI; rw [h]; rfl
theorem numJ_no {l : List UInt8} (h : good l = false) : numJ l = -1 := by unfold numJ; rw [h]; rfl
theorem numJ_yes {l : List UInt8} (h : good l = true) : numJ l = dval l := by unfold numJ; rw [h]; rfl
theorem ret2_no {s : ByteArray} (h : good s.data.toList = false) : Ending.returned (.tuple #[.int .i64 0, .bool false]) = .returned (.tuple #[.int .i64 (nI s), .bool (gB s)]) := by unfold nI gB; rw [numI_no h, h]
theorem ret2_yes {s : ByteArray} (h : good s.data.toList = true) : Ending.returned (.tuple #[.int .i64 (dval s.data.toList), .bool true]) = .returned (.tuple #[.int .i64 (nI s), .bool (gB s)]) := by unfold nI gB; rw [numI_yes h, h]
theorem ret1_no {s : ByteArray} (h : good s.data.toList = false) : Ending.returned (.int .i64 (-1)) = .returned (.int .i64 (nJ s)) := by unfold nJ; rw [numJ_no h]
theorem ret1_yes {s : ByteArray} (h : good s.data.toList = true) : Ending.returned (.int .i64 (dval s.data.toList)) = .returned (.int .i64 (nJ s)) := by unfold nJ; rw [numJ_yes h]
theorem isD_no {c : UInt8} (h : (c.toNat : Int) < 48 ∨ 57 < (c.toNat : Int)) : isD c = false := by unfold isD; simp; omega
theorem isD_yes {c : UInt8} (h : 48 ≤ (c.toNat : Int)) (h2 : (c.toNat : Int) ≤ 57) : isD c = true := by unfold isD; simp; omega
theorem take_all (s : ByteArray) : s.data.toList.take s.size = s.data.toList := List.take_of_length_le (by simp)

set_option maxHeartbeats 400000 in
theorem number_size (s : ByteArray) (w : World) (hs : s.size ≤ maxLen) (h : s.size = 0 ∨ 9 < s.size) :
    Calls Try.prog 8 #[.string s, .int .i64 9] w fun e w' => e = .returned (.tuple #[.int .i64 (nI s), .bool (gB s)]) ∧ w' = w := by
  unfold maxLen at hs
  have hg : Hid (good s.data.toList = false) := good_no_short s h
  rcases h with h | h
  · have h0 : ((s.size : Int) == 0) = true := by rw [beq_iff_eq]; omega
    go_enter Try.func8, Try.ntmps8
    go_wp2
    go_ret2
    exact ⟨ret2_no hg.out, rfl⟩
  · have h0 : ((s.size : Int) == 0) = false := by rw [beq_eq_false_iff_ne]; omega
    go_enter Try.func8, Try.ntmps8
    go_wp2
    go_ret2
    exact ⟨ret2_no hg.out, rfl⟩

set_option maxHeartbeats 400000 in
theorem number_mid (s : ByteArray) (w : World) (h1 : 1 ≤ s.size) (h9 : s.size ≤ 9) :
    Calls Try.prog 8 #[.string s, .int .i64 9] w fun e w' => e = .returned (.tuple #[.int .i64 (nI s), .bool (gB s)]) ∧ w' = w := by
  have h0 : ((s.size : Int) == 0) = false := by rw [beq_eq_false_iff_ne]; omega
  go_enter Try.func8, Try.ntmps8
  go_wp2
  go_loop [6, 19] (fun n r => ∃ k : Nat, k ≤ s.size ∧ r = .int .i64 k ∧ (s.data.toList.take k).all isD = true ∧ n = .int .i64 (dval (s.data.toList.take k))) (fun _ r => s.size - (intOf r).toNat)
  case atStart => exact ⟨0, Nat.zero_le _, rfl, rfl, rfl⟩
  case round =>
    obtain ⟨k, hk, rfl, hall, rfl⟩ := hrel
    have hbd := dval_bd _ hall (by simp; omega)
    have HALL : Hid ((s.data.toList.take k).all isD = true) := hall
    clear hall
    by_cases hlt : k < s.size
    · have hts := take_snoc s k hlt
      have HS : Hid (dval (s.data.toList.take (k + 1)) = 10 * dval (s.data.toList.take k) + ((s[k].toNat : Int) - 48)) := by rw [hts]; exact dval_snoc _ _
      have HA : Hid (isD s[k] = true → (s.data.toList.take (k + 1)).all isD = true) := by
        intro hd; rw [hts, List.all_append, HALL.out]; simp [hd]
      have HN : Hid (isD s[k] = false → good s.data.toList = false) := good_no_of s k hlt
      clear hts
      by_cases hlo : (s[k].toNat : Int) < 48
      · go_wp2
        go_ret2
        exact ⟨ret2_no (HN.out (isD_no (.inl hlo))), rfl⟩
      · by_cases hhi : 57 < (s[k].toNat : Int)
        · go_wp2
          go_ret2
          exact ⟨ret2_no (HN.out (isD_no (.inr hhi))), rfl⟩
        · have hlo' : 48 ≤ (s[k].toNat : Int) := by omega
          have hhi' : (s[k].toNat : Int) ≤ 57 := by omega
          go_wp2
          go_round
          case rel => exact ⟨k + 1, by omega, by go_num, HA.out (isD_yes hlo' hhi'), by rw [HS.out]⟩
          case measure => simp [intOf]; omega
    · obtain rfl : k = s.size := by omega
      go_wp2
      go_ret2
      rw [take_all] at HALL
      rw [take_all]
      exact ⟨ret2_yes (good_yes s h1 h9 HALL.out), rfl⟩

theorem number_any (s : ByteArray) (w : World) (hs : s.size ≤ maxLen) :
    Calls Try.prog 8 #[.string s, .int .i64 9] w fun e w' => e = .returned (.tuple #[.int .i64 (nI s), .bool (gB s)]) ∧ w' = w := by
  by_cases h : s.size = 0 ∨ 9 < s.size
  · exact number_size s w hs h
  · exact number_mid s w (by omega) (by omega)

/-! ### sieveref.Number -/
set_option maxHeartbeats 400000 in
theorem refnum_size (s : ByteArray) (w : World) (hs : s.size ≤ maxLen) (h : s.size = 0 ∨ 9 < s.size) :
    Calls Try.prog 9 #[.string s, .int .i64 9] w fun e w' => e = .returned (.int .i64 (nJ s)) ∧ w' = w := by
  unfold maxLen at hs
  have hg : Hid (good s.data.toList = false) := good_no_short s h
  rcases h with h | h
  · have h0 : (s.size : Int) < 1 := by omega
    go_enter Try.func9, Try.ntmps9
    go_wp2
    go_ret
    exact ⟨ret1_no hg.out, rfl⟩
  · have h0 : ¬ (s.size : Int) < 1 := by omega
    go_enter Try.func9, Try.ntmps9
    go_wp2
    go_ret
    exact ⟨ret1_no hg.out, rfl⟩

set_option maxHeartbeats 400000 in
theorem refnum_mid (s : ByteArray) (w : World) (h1 : 1 ≤ s.size) (h9 : s.size ≤ 9) :
    Calls Try.prog 9 #[.string s, .int .i64 9] w fun e w' => e = .returned (.int .i64 (nJ s)) ∧ w' = w := by
  have h0 : ¬ (s.size : Int) < 1 := by omega
  go_enter Try.func9, Try.ntmps9
  go_wp2
  go_loop [5, 6] (fun n r => ∃ k : Nat, k ≤ s.size ∧ r = .int .i64 k ∧ (s.data.toList.take k).all isD = true ∧ n = .int .i64 (dval (s.data.toList.take k))) (fun _ r => s.size - (intOf r).toNat)
  case atStart => exact ⟨0, Nat.zero_le _, rfl, rfl, rfl⟩
  case round =>
    obtain ⟨k, hk, rfl, hall, rfl⟩ := hrel
    have hbd := dval_bd _ hall (by simp; omega)
    have HALL : Hid ((s.data.toList.take k).all isD = true) := hall
    clear hall
    by_cases hlt : k < s.size
    · have hts := take_snoc s k hlt
      have HS : Hid (dval (s.data.toList.take (k + 1)) = 10 * dval (s.data.toList.take k) + ((s[k].toNat : Int) - 48)) := by rw [hts]; exact dval_snoc _ _
      have HA : Hid (isD s[k] = true → (s.data.toList.take (k + 1)).all isD = true) := by
        intro hd; rw [hts, List.all_append, HALL.out]; simp [hd]
      have HN : Hid (isD s[k] = false → good s.data.toList = false) := good_no_of s k hlt
      clear hts
      by_cases hlo : (s[k].toNat : Int) < 48
      · go_wp2
        go_ret
        exact ⟨ret1_no (HN.out (isD_no (.inl hlo))), rfl⟩
      · by_cases hhi : 57 < (s[k].toNat : Int)
        · have hdn : decide ((s[k].toNat : Int) ≤ 57) = false := by rw [decide_eq_false_iff_not]; omega
          go_wp2
          go_ret
          exact ⟨ret1_no (HN.out (isD_no (.inr hhi))), rfl⟩
        · have hlo' : 48 ≤ (s[k].toNat : Int) := by omega
          have hhi' : (s[k].toNat : Int) ≤ 57 := by omega
          go_wp2
          go_round
          case rel => exact ⟨k + 1, by omega, by go_num, HA.out (isD_yes hlo' hhi'), by rw [HS.out]; go_num⟩
          case measure => simp [intOf]; omega
    · obtain rfl : k = s.size := by omega
      go_wp2
      go_ret
      rw [take_all] at HALL
      rw [take_all]
      exact ⟨ret1_yes (good_yes s h1 h9 HALL.out), rfl⟩

theorem refnum_any (s : ByteArray) (w : World) (hs : s.size ≤ maxLen) :
    Calls Try.prog 9 #[.string s, .int .i64 9] w fun e w' => e = .returned (.int .i64 (nJ s)) ∧ w' = w := by
  by_cases h : s.size = 0 ∨ 9 < s.size
  · exact refnum_size s w hs h
  · exact refnum_mid s w (by omega) (by omega)
end Go.Proofs.Ytbhddhlklahaeaa
