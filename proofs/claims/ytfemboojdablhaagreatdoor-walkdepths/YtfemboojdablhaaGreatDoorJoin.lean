/- Two paths put together: plain lists, then the two functions. -/
import Derived.Test.YtfemboojdablhaaGreatDoorBase
namespace Go.Proofs.YtfemboojdablhaaGreatDoor
open Go.RowKit

def endsSlash (s : ByteArray) : Bool := decide (s.data.toList.getLast? = some 47)
def joinS (a b : ByteArray) : ByteArray := if a.toList.isEmpty || endsSlash a then a ++ b else a ++ ⟨#[47]⟩ ++ b

theorem data_app (a b : ByteArray) : (a ++ b).data.toList = a.data.toList ++ b.data.toList := by
  rw [ByteArray.data_append, Array.toList_append]
theorem neL_cat (p q : List UInt8) : neL (p ++ 47 :: q) = neL p ++ neL q := by
  unfold neL; rw [split_cat, List.filter_append]
theorem parts_join (a b : ByteArray) : partsS (joinS a b) = partsS a ++ partsS b := by
  rw [partsS_neL, partsS_neL, partsS_neL, ← List.map_append]
  congr 1
  unfold joinS
  cases he : a.toList.isEmpty
  · cases hs : endsSlash a
    · simp only [Bool.or_self, Bool.false_eq_true, if_false]
      rw [data_app, data_app]
      show neL (a.data.toList ++ [47] ++ b.data.toList) = _
      rw [List.append_assoc]
      exact neL_cat _ _
    · simp only [Bool.false_or, if_true]
      have h := of_decide_eq_true hs
      rcases snoc_cases a.data.toList with e | ⟨m, x, e⟩
      · rw [e] at h; simp at h
      · rw [e] at h
        simp at h
        subst h
        rw [data_app, e, neL_snoc, List.append_assoc]
        exact neL_cat _ _
  · simp only [Bool.true_or, if_true]
    have e : a.data.toList = [] := by rw [ByteArray.toList_eq] at he; exact List.isEmpty_iff.1 he
    rw [data_app, e]
    simp [neL, splitL]
theorem ends_get {a : ByteArray} (h : 1 ≤ a.size) : endsSlash a = decide ((a[a.size - 1].toNat : Int) = 47) := by
  unfold endsSlash
  congr 1
  rw [List.getLast?_eq_getElem?, size_list, List.getElem?_eq_getElem (by simp; omega)]
  have e : a.data.toList[a.size - 1]'(by simp; omega) = a[a.size - 1] := rfl
  rw [e, Option.some.injEq, eq_iff_iff]
  constructor
  · intro h; rw [h]; rfl
  · intro h; exact UInt8.toNat_inj.1 (by have : (47 : UInt8).toNat = 47 := rfl; omega)
theorem joinS_size (a b : ByteArray) : (joinS a b).size ≤ a.size + b.size + 1 := by
  unfold joinS
  cases (a.toList.isEmpty || endsSlash a)
  · simp only [Bool.false_eq_true, if_false]
    rw [ByteArray.size_append, ByteArray.size_append]
    show a.size + 1 + b.size ≤ _
    omega
  · simp only [if_true]
    rw [ByteArray.size_append]; omega
end Go.Proofs.YtfemboojdablhaaGreatDoor
