/- The law PathJoins: path.Join, the reference's Join, the walk. -/
import Derived.Test.YtfemboojdablhaaGreatDoorJoin
import Derived.Laws.AppendOwnNone
namespace Go.Proofs.YtfemboojdablhaaGreatDoor
open Go.RowKit

theorem suffix_eq {a : ByteArray} (h : 1 ≤ a.size) : ((a.extract (a.size - 1) a.size).toList == [47]) = endsSlash a := by
  rw [ends_get h, Bool.eq_iff_iff, beq_iff_eq, decide_eq_true_eq, ByteArray.toList_eq, extract_bs, data_bs, drop_get a (a.size - 1) (by omega), show a.size - (a.size - 1) = 1 from by omega]
  simp only [List.take_succ_cons, List.take_zero, List.cons.injEq, and_true]
  constructor
  · intro h; rw [h]; rfl
  · intro h; exact UInt8.toNat_inj.1 (by have : (47 : UInt8).toNat = 47 := rfl; omega)

set_option maxHeartbeats 1000000 in
theorem suffix_any (a : ByteArray) (w : World) (h1 : 1 ≤ a.size) (hs : a.size ≤ 1073741824) :
    Calls Tryz.prog 117 #[.string a, .string ⟨#[47]⟩] w fun e w' => e = .returned (.bool (endsSlash a)) ∧ w' = w := by
  have he := suffix_eq h1
  go_enter Tryz.func117, Tryz.ntmps117
  go_wp2
  go_ret
  exact ⟨rfl, rfl⟩

theorem join_plain {a b : ByteArray} (h : (a.toList.isEmpty || endsSlash a) = true) : a ++ b = joinS a b := by unfold joinS; rw [if_pos h]
theorem join_mid {a b : ByteArray} (h : (a.toList.isEmpty || endsSlash a) = false) : a ++ ⟨#[47]⟩ ++ b = joinS a b := by unfold joinS; rw [h]; rfl

set_option maxHeartbeats 1000000 in
theorem join_any (a b : ByteArray) (w : World) (ha : a.size ≤ 1073741824) (hb : b.size ≤ 1073741824) :
    Calls Tryz.prog 90 #[.string a, .string b] w fun e w' => e = .returned (.string (joinS a b)) ∧ w' = w := by
  cases he : a.toList.isEmpty
  · have h1 := emp_size_no he
    cases hs : endsSlash a
    · have HJ : Hid (a ++ ⟨#[47]⟩ ++ b = joinS a b) := join_mid (by rw [he, hs]; rfl)
      go_enter Tryz.func90, Tryz.ntmps90
      go_wp2_with (go_at_call 117; refine (suffix_any a _ h1 ha).mono ?_; rintro e w' ⟨rfl, rfl⟩)
      go_ret
      exact ⟨ret_str HJ.out, rfl⟩
    · have HJ : Hid (a ++ b = joinS a b) := join_plain (by rw [he, hs]; rfl)
      go_enter Tryz.func90, Tryz.ntmps90
      go_wp2_with (go_at_call 117; refine (suffix_any a _ h1 ha).mono ?_; rintro e w' ⟨rfl, rfl⟩)
      go_ret
      exact ⟨ret_str HJ.out, rfl⟩
  · have HJ : Hid (a ++ b = joinS a b) := join_plain (by rw [he]; rfl)
    go_enter Tryz.func90, Tryz.ntmps90
    go_wp2
    go_ret
    exact ⟨ret_str HJ.out, rfl⟩

end Go.Proofs.YtfemboojdablhaaGreatDoor
