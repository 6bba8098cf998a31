import Derived.Test.YtbhddhlklahaeaaWalks
namespace Go.Proofs.Ytbhddhlklahaeaa
open Go.RowKit

def lastN (s : ByteArray) : Int := if h : 1 ≤ s.size then (s[s.size - 1].toNat : Int) else 0
def unitOf (s : ByteArray) : Int := if lastN s = 99 then 1 else if lastN s = 107 then 1024 else if lastN s = 77 then 1048576 else if lastN s = 71 then 1073741824 else 512
def headOf (s : ByteArray) : ByteArray := if unitOf s = 512 then s else s.extract 0 (s.size - 1)
def sizeI (s : ByteArray) : Int := nI (headOf s) * unitOf s
def sizeB (s : ByteArray) : Bool := gB (headOf s)

theorem lastN_eq {s : ByteArray} (h : 1 ≤ s.size) : lastN s = (s[s.size - 1].toNat : Int) := by unfold lastN; rw [dif_pos h]
theorem empty_no {s : ByteArray} (h : 1 ≤ s.size) : s.toList.isEmpty = false := by
  cases hE : s.toList.isEmpty
  · rfl
  · exfalso
    rw [ByteArray.toList_eq] at hE
    have h2 := len_data s
    rw [List.isEmpty_iff.1 hE] at h2
    simp at h2; omega
theorem empty_yes {s : ByteArray} (h : s.size = 0) : s.toList.isEmpty = true := by
  have h2 := len_data s
  rw [h] at h2
  rw [ByteArray.toList_eq, List.isEmpty_iff]
  exact List.eq_nil_of_length_eq_zero h2

set_option maxHeartbeats 400000 in
theorem cut_empty (s : ByteArray) (w : World) (h : s.size = 0) :
    Calls Try.prog 7 #[.string s] w fun e w' => e = .returned (.tuple #[.string s, .int .i64 0]) ∧ w' = w := by
  have he := empty_yes h
  go_enter Try.func7, Try.ntmps7
  go_wp2
  go_ret2
  exact ⟨rfl, rfl⟩

theorem ret_cut {s h : ByteArray} {u : Int} (h1 : h = headOf s) (h2 : u = unitOf s) : Ending.returned (.tuple #[.string h, .int .i64 u]) = .returned (.tuple #[.string (headOf s), .int .i64 (unitOf s)]) := by rw [h1, h2]
theorem beq_t {a b : Int} (h : (a == b) = true) : a = b := by simpa using h
theorem beq_f {a b : Int} (h : (a == b) = false) : ¬ a = b := by simpa using h

set_option maxHeartbeats 400000 in
theorem cut_any (s : ByteArray) (w : World) (hs : s.size ≤ 9223372036854775807) (h1 : 1 ≤ s.size) :
    Calls Try.prog 7 #[.string s] w fun e w' => e = .returned (.tuple #[.string (headOf s), .int .i64 (unitOf s)]) ∧ w' = w := by
  have he := empty_no h1
  have HL : Hid (lastN s = (s[s.size - 1].toNat : Int)) := lastN_eq h1
  go_enter Try.func7, Try.ntmps7
  go_wp2
  · have e1 : (s[s.size - 1].toNat : Int) = 99 := beq_t (by assumption)
    go_ret2
    have hu : unitOf s = 1 := by unfold unitOf; rw [HL.out, if_pos e1]
    exact ⟨ret_cut (by unfold headOf; rw [hu]; rfl) hu.symm, rfl⟩
  · have e1 : ¬ (s[s.size - 1].toNat : Int) = 99 := beq_f (by assumption)
    have e2 : (s[s.size - 1].toNat : Int) = 107 := beq_t (by assumption)
    go_ret2
    have hu : unitOf s = 1024 := by unfold unitOf; rw [HL.out, if_neg e1, if_pos e2]
    exact ⟨ret_cut (by unfold headOf; rw [hu]; rfl) hu.symm, rfl⟩
  · have e1 : ¬ (s[s.size - 1].toNat : Int) = 99 := beq_f (by assumption)
    have e2 : ¬ (s[s.size - 1].toNat : Int) = 107 := beq_f (by assumption)
    have e3 : (s[s.size - 1].toNat : Int) = 77 := beq_t (by assumption)
    go_ret2
    have hu : unitOf s = 1048576 := by unfold unitOf; rw [HL.out, if_neg e1, if_neg e2, if_pos e3]
    exact ⟨ret_cut (by unfold headOf; rw [hu]; rfl) hu.symm, rfl⟩
  · have e1 : ¬ (s[s.size - 1].toNat : Int) = 99 := beq_f (by assumption)
    have e2 : ¬ (s[s.size - 1].toNat : Int) = 107 := beq_f (by assumption)
    have e3 : ¬ (s[s.size - 1].toNat : Int) = 77 := beq_f (by assumption)
    have e4 : (s[s.size - 1].toNat : Int) = 71 := beq_t (by assumption)
    go_ret2
    have hu : unitOf s = 1073741824 := by unfold unitOf; rw [HL.out, if_neg e1, if_neg e2, if_neg e3, if_pos e4]
    exact ⟨ret_cut (by unfold headOf; rw [hu]; rfl) hu.symm, rfl⟩
  · have e1 : ¬ (s[s.size - 1].toNat : Int) = 99 := beq_f (by assumption)
    have e2 : ¬ (s[s.size - 1].toNat : Int) = 107 := beq_f (by assumption)
    have e3 : ¬ (s[s.size - 1].toNat : Int) = 77 := beq_f (by assumption)
    have e4 : ¬ (s[s.size - 1].toNat : Int) = 71 := beq_f (by assumption)
    go_ret2
    have hu : unitOf s = 512 := by unfold unitOf; rw [HL.out, if_neg e1, if_neg e2, if_neg e3, if_neg e4]
    exact ⟨ret_cut (by unfold headOf; rw [hu]; rfl) hu.symm, rfl⟩

theorem unit_bd (s : ByteArray) : 1 ≤ unitOf s ∧ unitOf s ≤ 1073741824 := by
  unfold unitOf
  by_cases a : lastN s = 99
  · rw [if_pos a]; omega
  · rw [if_neg a]
    by_cases b : lastN s = 107
    · rw [if_pos b]; omega
    · rw [if_neg b]
      by_cases c : lastN s = 77
      · rw [if_pos c]; omega
      · rw [if_neg c]
        by_cases d : lastN s = 71
        · rw [if_pos d]; omega
        · rw [if_neg d]; omega
theorem nI_no {s : ByteArray} (h : gB s = false) : nI s = 0 := numI_no h
theorem nI_yes {s : ByteArray} (h : gB s = true) : nI s = dval s.data.toList := numI_yes h
theorem nJ_no {s : ByteArray} (h : gB s = false) : nJ s = -1 := numJ_no h
theorem nJ_yes {s : ByteArray} (h : gB s = true) : nJ s = dval s.data.toList := numJ_yes h
theorem good_len {l : List UInt8} (h : good l = true) : l.all isD = true ∧ l.length ≤ 9 := by
  unfold good at h
  simp only [Bool.and_eq_true, decide_eq_true_eq] at h
  exact ⟨h.1, h.2.2⟩
theorem nI_bd (s : ByteArray) : 0 ≤ nI s ∧ nI s ≤ 999999999 := by
  cases h : gB s
  · rw [nI_no h]; omega
  · rw [nI_yes h]; exact dval_bd _ (good_len h).1 (good_len h).2
theorem mul_bd {a b : Int} (ha : 0 ≤ a ∧ a ≤ 999999999) (hb : 1 ≤ b ∧ b ≤ 1073741824) : 0 ≤ a * b ∧ a * b ≤ 1152921504606846976 := by
  refine ⟨Int.mul_nonneg ha.1 (by omega), ?_⟩
  have h1 : a * b ≤ 999999999 * b := Int.mul_le_mul_of_nonneg_right ha.2 (by omega)
  omega
theorem head_size (s : ByteArray) : (headOf s).size ≤ s.size := by
  unfold headOf
  by_cases h : unitOf s = 512
  · rw [if_pos h]; omega
  · rw [if_neg h]; simp
theorem head_empty {s : ByteArray} (h : s.size = 0) : headOf s = s := by
  have e : lastN s = 0 := by unfold lastN; rw [dif_neg (by omega)]
  have u : unitOf s = 512 := by unfold unitOf; rw [e]; rfl
  unfold headOf; rw [if_pos u]
theorem ret_size {s : ByteArray} {n : Int} {b : Bool} (h1 : n = sizeI s) (h2 : b = sizeB s) : Ending.returned (.tuple #[.int .i64 n, .bool b]) = .returned (.tuple #[.int .i64 (sizeI s), .bool (sizeB s)]) := by rw [h1, h2]
theorem sizeI_no {s : ByteArray} (h : gB (headOf s) = false) : sizeI s = 0 := by unfold sizeI; rw [nI_no h]; simp
theorem size_empty {s : ByteArray} (h : s.size = 0) : gB (headOf s) = false := by
  rw [head_empty h]; exact good_no_short s (.inl h)

set_option maxHeartbeats 400000 in
theorem size_any (s : ByteArray) (w : World) (hs : s.size ≤ 9223372036854775807) :
    Calls Try.prog 5 #[.string s] w fun e w' => e = .returned (.tuple #[.int .i64 (sizeI s), .bool (sizeB s)]) ∧ w' = w := by
  by_cases h0 : s.size = 0
  · have hg : Hid (gB (headOf s) = false) := size_empty h0
    have hg2 : gB s = false := good_no_short s (.inl h0)
    have hn2 : nI s = 0 := nI_no hg2
    go_enter Try.func5, Try.ntmps5
    go_wp2_with fail
    refine (cut_empty s _ h0).mono ?_
    rintro e w' ⟨rfl, rfl⟩
    go_wp2_with fail
    refine (number_any s _ (by unfold maxLen; omega)).mono ?_
    rintro e w' ⟨rfl, rfl⟩
    go_wp2
    go_ret2
    exact ⟨ret_size (sizeI_no hg.out).symm hg.out.symm, rfl⟩
  · have hu := unit_bd s
    have hz := head_size s
    cases hg : gB (headOf s)
    · go_enter Try.func5, Try.ntmps5
      go_wp2_with fail
      refine (cut_any s _ hs (by omega)).mono ?_
      rintro e w' ⟨rfl, rfl⟩
      go_wp2_with fail
      refine (number_any (headOf s) _ (by unfold maxLen; omega)).mono ?_
      rintro e w' ⟨rfl, rfl⟩
      go_wp2
      go_ret2
      exact ⟨ret_size (sizeI_no hg).symm hg.symm, rfl⟩
    · have hm := mul_bd (nI_bd (headOf s)) hu
      go_enter Try.func5, Try.ntmps5
      go_wp2_with fail
      refine (cut_any s _ hs (by omega)).mono ?_
      rintro e w' ⟨rfl, rfl⟩
      go_wp2_with fail
      refine (number_any (headOf s) _ (by unfold maxLen; omega)).mono ?_
      rintro e w' ⟨rfl, rfl⟩
      go_wp2
      go_ret2
      exact ⟨ret_size rfl hg.symm, rfl⟩

theorem nJ_lo {s : ByteArray} (h : gB s = false) : nJ s < 0 := by rw [nJ_no h]; omega
theorem nJ_hi {s : ByteArray} (h : gB s = true) : 0 ≤ nJ s ∧ nJ s ≤ 999999999 := by rw [nJ_yes h]; exact dval_bd _ (good_len h).1 (good_len h).2
theorem ref_fin_no {s t : ByteArray} (ht : headOf s = t) (hg : gB t = false) : Ending.returned (.tuple #[.int .i64 0, .bool false]) = .returned (.tuple #[.int .i64 (sizeI s), .bool (sizeB s)]) :=
  ret_size (sizeI_no (by rw [ht]; exact hg)).symm (by unfold sizeB; rw [ht]; exact hg.symm)
theorem ref_fin_yes {s t : ByteArray} {u : Int} (ht : headOf s = t) (hu : unitOf s = u) (hg : gB t = true) : Ending.returned (.tuple #[.int .i64 (nJ t * u), .bool true]) = .returned (.tuple #[.int .i64 (sizeI s), .bool (sizeB s)]) :=
  ret_size (by unfold sizeI; rw [ht, hu, nI_yes hg, nJ_yes hg]) (by unfold sizeB; rw [ht]; exact hg.symm)
theorem ref_fin_one {s t : ByteArray} (ht : headOf s = t) (hu : unitOf s = 1) (hg : gB t = true) : Ending.returned (.tuple #[.int .i64 (nJ t), .bool true]) = .returned (.tuple #[.int .i64 (sizeI s), .bool (sizeB s)]) :=
  ret_size (by unfold sizeI; rw [ht, hu, nI_yes hg, nJ_yes hg, Int.mul_one]) (by unfold sizeB; rw [ht]; exact hg.symm)
theorem beq_mt {a b : Int} (h : a = b) : (a == b) = true := by simpa using h
theorem beq_mf {a b : Int} (h : ¬ a = b) : (a == b) = false := by simpa using h

end Go.Proofs.Ytbhddhlklahaeaa
