import Derived.Test.YtbhddhlklahaeaaRef
namespace Go.Proofs.Ytbhddhlklahaeaa
open Go.RowKit

theorem app_size (s : ByteArray) (c : UInt8) : (s ++ ⟨#[c]⟩ : ByteArray).size = s.size + 1 := by
  rw [ByteArray.size_append]; rfl
theorem app_last (s : ByteArray) (c : UInt8) : lastN (s ++ ⟨#[c]⟩) = (c.toNat : Int) := by
  have h := app_size s c
  rw [lastN_eq (by omega)]
  have : (s ++ ⟨#[c]⟩ : ByteArray)[(s ++ ⟨#[c]⟩ : ByteArray).size - 1]'(by omega) = c := by
    simp only [h, Nat.add_sub_cancel]
    rw [ByteArray.getElem_append_right (by omega)]
    simp
    rfl
  rw [this]
theorem app_head (s : ByteArray) (c : UInt8) (h : ¬ unitOf (s ++ ⟨#[c]⟩) = 512) : headOf (s ++ ⟨#[c]⟩) = s := by
  unfold headOf
  rw [if_neg h, app_size, Nat.add_sub_cancel]
  exact ByteArray.extract_append_eq_left rfl
theorem app_unit (s : ByteArray) : unitOf (s ++ ⟨#[99]⟩) = 1 ∧ unitOf (s ++ ⟨#[107]⟩) = 1024 ∧ unitOf (s ++ ⟨#[77]⟩) = 1048576 ∧ unitOf (s ++ ⟨#[71]⟩) = 1073741824 := by
  unfold unitOf
  rw [app_last, app_last, app_last, app_last]
  exact ⟨rfl, rfl, rfl, rfl⟩
theorem app_sizes (s : ByteArray) (c : UInt8) (u : Int) (hu : unitOf (s ++ ⟨#[c]⟩) = u) (hne : ¬ u = 512) : sizeI (s ++ ⟨#[c]⟩) = nI s * u ∧ sizeB (s ++ ⟨#[c]⟩) = gB s := by
  have hh := app_head s c (by rw [hu]; exact hne)
  unfold sizeI sizeB
  rw [hh, hu]
  exact ⟨rfl, rfl⟩

theorem size_c (s : ByteArray) (w : World) (hs : s.size ≤ 140737488351232) :
    Calls Try.prog 5 #[.string (s ++ ⟨#[99]⟩)] w fun e w' => e = .returned (.tuple #[.int .i64 (nI s), .bool (gB s)]) ∧ w' = w := by
  have e := app_sizes s 99 1 (app_unit s).1 (by decide)
  have h := size_any (s ++ ⟨#[99]⟩) w (by rw [app_size]; omega)
  rw [e.1, e.2, Int.mul_one] at h
  exact h
theorem size_k (s : ByteArray) (w : World) (hs : s.size ≤ 140737488351232) :
    Calls Try.prog 5 #[.string (s ++ ⟨#[107]⟩)] w fun e w' => e = .returned (.tuple #[.int .i64 (nI s * 1024), .bool (gB s)]) ∧ w' = w := by
  have e := app_sizes s 107 1024 (app_unit s).2.1 (by decide)
  have h := size_any (s ++ ⟨#[107]⟩) w (by rw [app_size]; omega)
  rw [e.1, e.2] at h
  exact h
theorem size_M (s : ByteArray) (w : World) (hs : s.size ≤ 140737488351232) :
    Calls Try.prog 5 #[.string (s ++ ⟨#[77]⟩)] w fun e w' => e = .returned (.tuple #[.int .i64 (nI s * 1048576), .bool (gB s)]) ∧ w' = w := by
  have e := app_sizes s 77 1048576 (app_unit s).2.2.1 (by decide)
  have h := size_any (s ++ ⟨#[77]⟩) w (by rw [app_size]; omega)
  rw [e.1, e.2] at h
  exact h
theorem size_G (s : ByteArray) (w : World) (hs : s.size ≤ 140737488351232) :
    Calls Try.prog 5 #[.string (s ++ ⟨#[71]⟩)] w fun e w' => e = .returned (.tuple #[.int .i64 (nI s * 1073741824), .bool (gB s)]) ∧ w' = w := by
  have e := app_sizes s 71 1073741824 (app_unit s).2.2.2 (by decide)
  have h := size_any (s ++ ⟨#[71]⟩) w (by rw [app_size]; omega)
  rw [e.1, e.2] at h
  exact h
theorem ref_c (s : ByteArray) (w : World) (hs : s.size ≤ 140737488351232) :
    Calls Try.prog 6 #[.string (s ++ ⟨#[99]⟩)] w fun e w' => e = .returned (.tuple #[.int .i64 (nI s), .bool (gB s)]) ∧ w' = w := by
  have e := app_sizes s 99 1 (app_unit s).1 (by decide)
  have h := refsize_any (s ++ ⟨#[99]⟩) w (by rw [app_size]; omega)
  rw [e.1, e.2, Int.mul_one] at h
  exact h

set_option maxHeartbeats 400000 in
theorem units_no (s : ByteArray) (w : World) (hs : s.size ≤ 140737488351232) (hg : gB s = false) :
    Calls Try.prog 4 #[.string s] w fun e w' => e = .returned (.bool true) ∧ w' = w := by
  have hb := nI_bd s
  go_enter Try.func4, Try.ntmps4
  go_wp2_with fail
  refine (size_c s _ hs).mono ?_
  rintro e w' ⟨rfl, rfl⟩
  go_wp2_with fail
  refine (size_k s _ hs).mono ?_
  rintro e w' ⟨rfl, rfl⟩
  go_wp2_with fail
  refine (size_M s _ hs).mono ?_
  rintro e w' ⟨rfl, rfl⟩
  go_wp2_with fail
  refine (size_G s _ hs).mono ?_
  rintro e w' ⟨rfl, rfl⟩
  go_wp2_with fail
  refine (ref_c s _ hs).mono ?_
  rintro e w' ⟨rfl, rfl⟩
  go_wp2
  go_ret
  exact ⟨rfl, rfl⟩
set_option maxHeartbeats 400000 in
theorem units_yes (s : ByteArray) (w : World) (hs : s.size ≤ 140737488351232) (hg : gB s = true) :
    Calls Try.prog 4 #[.string s] w fun e w' => e = .returned (.bool true) ∧ w' = w := by
  have hb := nI_bd s
  have e1 : (nI s * 1024 == 1024 * nI s) = true := by rw [beq_iff_eq]; omega
  have e2 : (nI s * 1048576 == 1024 * (nI s * 1024)) = true := by rw [beq_iff_eq]; omega
  have e3 : (nI s * 1073741824 == 1024 * (nI s * 1048576)) = true := by rw [beq_iff_eq]; omega
  go_enter Try.func4, Try.ntmps4
  go_wp2_with fail
  refine (size_c s _ hs).mono ?_
  rintro e w' ⟨rfl, rfl⟩
  go_wp2_with fail
  refine (size_k s _ hs).mono ?_
  rintro e w' ⟨rfl, rfl⟩
  go_wp2_with fail
  refine (size_M s _ hs).mono ?_
  rintro e w' ⟨rfl, rfl⟩
  go_wp2_with fail
  refine (size_G s _ hs).mono ?_
  rintro e w' ⟨rfl, rfl⟩
  go_wp2_with fail
  refine (ref_c s _ hs).mono ?_
  rintro e w' ⟨rfl, rfl⟩
  go_wp2
  go_ret
  exact ⟨rfl, rfl⟩
theorem units_any (s : ByteArray) (w : World) (hs : s.size ≤ 140737488351232) :
    Calls Try.prog 4 #[.string s] w fun e w' => e = .returned (.bool true) ∧ w' = w := by
  cases hg : gB s
  · exact units_no s w hs hg
  · exact units_yes s w hs hg
end Go.Proofs.Ytbhddhlklahaeaa
