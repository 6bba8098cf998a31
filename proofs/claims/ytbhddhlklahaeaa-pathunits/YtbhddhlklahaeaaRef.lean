import Derived.Test.YtbhddhlklahaeaaSize
namespace Go.Proofs.Ytbhddhlklahaeaa
open Go.RowKit

set_option maxHeartbeats 400000 in
theorem refsize_empty (s : ByteArray) (w : World) (h0 : s.size = 0) :
    Calls Try.prog 6 #[.string s] w fun e w' => e = .returned (.tuple #[.int .i64 (sizeI s), .bool (sizeB s)]) ∧ w' = w := by
  have he := empty_yes h0
  have hg : Hid (gB s = false) := good_no_short s (.inl h0)
  have hj := nJ_lo hg.out
  have hh : Hid (headOf s = s) := head_empty h0
  go_enter Try.func6, Try.ntmps6
  go_wp2_with fail
  refine (refnum_any s _ (by unfold maxLen; omega)).mono ?_
  rintro e w' ⟨rfl, rfl⟩
  go_wp2
  go_ret2
  exact ⟨ref_fin_no hh.out hg.out, rfl⟩

set_option maxHeartbeats 400000 in
theorem refsize_c (s : ByteArray) (w : World) (hs : s.size ≤ 9223372036854775807) (h1 : 1 ≤ s.size) (e99 : (s[s.size - 1].toNat : Int) = 99) :
    Calls Try.prog 6 #[.string s] w fun e w' => e = .returned (.tuple #[.int .i64 (sizeI s), .bool (sizeB s)]) ∧ w' = w := by
  have he := empty_no h1
  have hu : Hid (unitOf s = 1) := by unfold Hid unitOf; rw [lastN_eq h1, if_pos e99]
  have hh : Hid (headOf s = (s.extract 0 (s.size - 1))) := by unfold Hid headOf; rw [hu.out]; rfl
  have b99 := beq_mt e99
  have E99 : Hid ((s[s.size - 1].toNat : Int) = 99) := e99
  clear e99
  cases hg : gB (s.extract 0 (s.size - 1))
  · have HG : Hid (gB (s.extract 0 (s.size - 1)) = false) := hg
    have hj := nJ_lo hg
    clear hg
    go_enter Try.func6, Try.ntmps6
    go_wp2_with fail
    refine (refnum_any (s.extract 0 (s.size - 1)) _ (by unfold maxLen; simp; omega)).mono ?_
    rintro e w' ⟨rfl, rfl⟩
    go_wp2
    go_ret2
    exact ⟨ref_fin_no hh.out HG.out, rfl⟩
  · have HG : Hid (gB (s.extract 0 (s.size - 1)) = true) := hg
    have hj := nJ_hi hg
    clear hg
    have hj2 : ¬ nJ (s.extract 0 (s.size - 1)) < 0 := by omega
    go_enter Try.func6, Try.ntmps6
    go_wp2_with fail
    refine (refnum_any (s.extract 0 (s.size - 1)) _ (by unfold maxLen; simp; omega)).mono ?_
    rintro e w' ⟨rfl, rfl⟩
    go_wp2
    go_ret2
    exact ⟨ref_fin_one hh.out hu.out HG.out, rfl⟩

set_option maxHeartbeats 400000 in
theorem refsize_k (s : ByteArray) (w : World) (hs : s.size ≤ 9223372036854775807) (h1 : 1 ≤ s.size) (n99 : ¬ (s[s.size - 1].toNat : Int) = 99) (e107 : (s[s.size - 1].toNat : Int) = 107) :
    Calls Try.prog 6 #[.string s] w fun e w' => e = .returned (.tuple #[.int .i64 (sizeI s), .bool (sizeB s)]) ∧ w' = w := by
  have he := empty_no h1
  have hu : Hid (unitOf s = 1024) := by unfold Hid unitOf; rw [lastN_eq h1, if_neg n99, if_pos e107]
  have hh : Hid (headOf s = (s.extract 0 (s.size - 1))) := by unfold Hid headOf; rw [hu.out]; rfl
  have b99 := beq_mf n99
  have b107 := beq_mt e107
  have M99 : Hid (¬ (s[s.size - 1].toNat : Int) = 99) := n99
  clear n99
  have E107 : Hid ((s[s.size - 1].toNat : Int) = 107) := e107
  clear e107
  cases hg : gB (s.extract 0 (s.size - 1))
  · have HG : Hid (gB (s.extract 0 (s.size - 1)) = false) := hg
    have hj := nJ_lo hg
    clear hg
    go_enter Try.func6, Try.ntmps6
    go_wp2_with fail
    refine (refnum_any (s.extract 0 (s.size - 1)) _ (by unfold maxLen; simp; omega)).mono ?_
    rintro e w' ⟨rfl, rfl⟩
    go_wp2
    go_ret2
    exact ⟨ref_fin_no hh.out HG.out, rfl⟩
  · have HG : Hid (gB (s.extract 0 (s.size - 1)) = true) := hg
    have hj := nJ_hi hg
    clear hg
    have hj2 : ¬ nJ (s.extract 0 (s.size - 1)) < 0 := by omega
    go_enter Try.func6, Try.ntmps6
    go_wp2_with fail
    refine (refnum_any (s.extract 0 (s.size - 1)) _ (by unfold maxLen; simp; omega)).mono ?_
    rintro e w' ⟨rfl, rfl⟩
    go_wp2
    go_ret2
    exact ⟨ref_fin_yes hh.out hu.out HG.out, rfl⟩

set_option maxHeartbeats 400000 in
theorem refsize_M (s : ByteArray) (w : World) (hs : s.size ≤ 9223372036854775807) (h1 : 1 ≤ s.size) (n99 : ¬ (s[s.size - 1].toNat : Int) = 99) (n107 : ¬ (s[s.size - 1].toNat : Int) = 107) (e77 : (s[s.size - 1].toNat : Int) = 77) :
    Calls Try.prog 6 #[.string s] w fun e w' => e = .returned (.tuple #[.int .i64 (sizeI s), .bool (sizeB s)]) ∧ w' = w := by
  have he := empty_no h1
  have hu : Hid (unitOf s = 1048576) := by unfold Hid unitOf; rw [lastN_eq h1, if_neg n99, if_neg n107, if_pos e77]
  have hh : Hid (headOf s = (s.extract 0 (s.size - 1))) := by unfold Hid headOf; rw [hu.out]; rfl
  have b99 := beq_mf n99
  have b107 := beq_mf n107
  have b77 := beq_mt e77
  have M99 : Hid (¬ (s[s.size - 1].toNat : Int) = 99) := n99
  clear n99
  have M107 : Hid (¬ (s[s.size - 1].toNat : Int) = 107) := n107
  clear n107
  have E77 : Hid ((s[s.size - 1].toNat : Int) = 77) := e77
  clear e77
  cases hg : gB (s.extract 0 (s.size - 1))
  · have HG : Hid (gB (s.extract 0 (s.size - 1)) = false) := hg
    have hj := nJ_lo hg
    clear hg
    go_enter Try.func6, Try.ntmps6
    go_wp2_with fail
    refine (refnum_any (s.extract 0 (s.size - 1)) _ (by unfold maxLen; simp; omega)).mono ?_
    rintro e w' ⟨rfl, rfl⟩
    go_wp2
    go_ret2
    exact ⟨ref_fin_no hh.out HG.out, rfl⟩
  · have HG : Hid (gB (s.extract 0 (s.size - 1)) = true) := hg
    have hj := nJ_hi hg
    clear hg
    have hj2 : ¬ nJ (s.extract 0 (s.size - 1)) < 0 := by omega
    go_enter Try.func6, Try.ntmps6
    go_wp2_with fail
    refine (refnum_any (s.extract 0 (s.size - 1)) _ (by unfold maxLen; simp; omega)).mono ?_
    rintro e w' ⟨rfl, rfl⟩
    go_wp2
    go_ret2
    exact ⟨ref_fin_yes hh.out hu.out HG.out, rfl⟩

set_option maxHeartbeats 400000 in
theorem refsize_G (s : ByteArray) (w : World) (hs : s.size ≤ 9223372036854775807) (h1 : 1 ≤ s.size) (n99 : ¬ (s[s.size - 1].toNat : Int) = 99) (n107 : ¬ (s[s.size - 1].toNat : Int) = 107) (n77 : ¬ (s[s.size - 1].toNat : Int) = 77) (e71 : (s[s.size - 1].toNat : Int) = 71) :
    Calls Try.prog 6 #[.string s] w fun e w' => e = .returned (.tuple #[.int .i64 (sizeI s), .bool (sizeB s)]) ∧ w' = w := by
  have he := empty_no h1
  have hu : Hid (unitOf s = 1073741824) := by unfold Hid unitOf; rw [lastN_eq h1, if_neg n99, if_neg n107, if_neg n77, if_pos e71]
  have hh : Hid (headOf s = (s.extract 0 (s.size - 1))) := by unfold Hid headOf; rw [hu.out]; rfl
  have b99 := beq_mf n99
  have b107 := beq_mf n107
  have b77 := beq_mf n77
  have b71 := beq_mt e71
  have M99 : Hid (¬ (s[s.size - 1].toNat : Int) = 99) := n99
  clear n99
  have M107 : Hid (¬ (s[s.size - 1].toNat : Int) = 107) := n107
  clear n107
  have M77 : Hid (¬ (s[s.size - 1].toNat : Int) = 77) := n77
  clear n77
  have E71 : Hid ((s[s.size - 1].toNat : Int) = 71) := e71
  clear e71
  cases hg : gB (s.extract 0 (s.size - 1))
  · have HG : Hid (gB (s.extract 0 (s.size - 1)) = false) := hg
    have hj := nJ_lo hg
    clear hg
    go_enter Try.func6, Try.ntmps6
    go_wp2_with fail
    refine (refnum_any (s.extract 0 (s.size - 1)) _ (by unfold maxLen; simp; omega)).mono ?_
    rintro e w' ⟨rfl, rfl⟩
    go_wp2
    go_ret2
    exact ⟨ref_fin_no hh.out HG.out, rfl⟩
  · have HG : Hid (gB (s.extract 0 (s.size - 1)) = true) := hg
    have hj := nJ_hi hg
    clear hg
    have hj2 : ¬ nJ (s.extract 0 (s.size - 1)) < 0 := by omega
    go_enter Try.func6, Try.ntmps6
    go_wp2_with fail
    refine (refnum_any (s.extract 0 (s.size - 1)) _ (by unfold maxLen; simp; omega)).mono ?_
    rintro e w' ⟨rfl, rfl⟩
    go_wp2
    go_ret2
    exact ⟨ref_fin_yes hh.out hu.out HG.out, rfl⟩

set_option maxHeartbeats 400000 in
theorem refsize_o (s : ByteArray) (w : World) (hs : s.size ≤ 9223372036854775807) (h1 : 1 ≤ s.size) (n99 : ¬ (s[s.size - 1].toNat : Int) = 99) (n107 : ¬ (s[s.size - 1].toNat : Int) = 107) (n77 : ¬ (s[s.size - 1].toNat : Int) = 77) (n71 : ¬ (s[s.size - 1].toNat : Int) = 71) :
    Calls Try.prog 6 #[.string s] w fun e w' => e = .returned (.tuple #[.int .i64 (sizeI s), .bool (sizeB s)]) ∧ w' = w := by
  have he := empty_no h1
  have hu : Hid (unitOf s = 512) := by unfold Hid unitOf; rw [lastN_eq h1, if_neg n99, if_neg n107, if_neg n77, if_neg n71]
  have hh : Hid (headOf s = s) := by unfold Hid headOf; rw [hu.out]; rfl
  have b99 := beq_mf n99
  have b107 := beq_mf n107
  have b77 := beq_mf n77
  have b71 := beq_mf n71
  have M99 : Hid (¬ (s[s.size - 1].toNat : Int) = 99) := n99
  clear n99
  have M107 : Hid (¬ (s[s.size - 1].toNat : Int) = 107) := n107
  clear n107
  have M77 : Hid (¬ (s[s.size - 1].toNat : Int) = 77) := n77
  clear n77
  have M71 : Hid (¬ (s[s.size - 1].toNat : Int) = 71) := n71
  clear n71
  cases hg : gB s
  · have HG : Hid (gB s = false) := hg
    have hj := nJ_lo hg
    clear hg
    go_enter Try.func6, Try.ntmps6
    go_wp2_with fail
    refine (refnum_any s _ (by unfold maxLen; omega)).mono ?_
    rintro e w' ⟨rfl, rfl⟩
    go_wp2
    go_ret2
    exact ⟨ref_fin_no hh.out HG.out, rfl⟩
  · have HG : Hid (gB s = true) := hg
    have hj := nJ_hi hg
    clear hg
    have hj2 : ¬ nJ s < 0 := by omega
    go_enter Try.func6, Try.ntmps6
    go_wp2_with fail
    refine (refnum_any s _ (by unfold maxLen; omega)).mono ?_
    rintro e w' ⟨rfl, rfl⟩
    go_wp2
    go_ret2
    exact ⟨ref_fin_yes hh.out hu.out HG.out, rfl⟩

theorem refsize_any (s : ByteArray) (w : World) (hs : s.size ≤ 9223372036854775807) :
    Calls Try.prog 6 #[.string s] w fun e w' => e = .returned (.tuple #[.int .i64 (sizeI s), .bool (sizeB s)]) ∧ w' = w := by
  by_cases h0 : s.size = 0
  · exact refsize_empty s w h0
  · have h1 : 1 ≤ s.size := by omega
    by_cases a : (s[s.size - 1].toNat : Int) = 99
    · exact refsize_c s w hs h1 a
    · by_cases b : (s[s.size - 1].toNat : Int) = 107
      · exact refsize_k s w hs h1 a b
      · by_cases c : (s[s.size - 1].toNat : Int) = 77
        · exact refsize_M s w hs h1 a b c
        · by_cases d : (s[s.size - 1].toNat : Int) = 71
          · exact refsize_G s w hs h1 a b c d
          · exact refsize_o s w hs h1 a b c d
end Go.Proofs.Ytbhddhlklahaeaa
