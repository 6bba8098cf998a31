/- The reference's Parts; the laws' 'texts'. -/
import Derived.Test.YtfemboojdablhaaGreatDoorRef
namespace Go.Proofs.YtfemboojdablhaaGreatDoor
open Go.RowKit

theorem keep_take_hit {cs : List ByteArray} {k : Nat} {x : ByteArray} (hx : cs[k]? = some x) (hk : x.toList.isEmpty = false) : (cs.take (k + 1)).filter keep = (cs.take k).filter keep ++ [x] := by
  have hlt := (List.getElem?_eq_some_iff.1 hx).1
  have he := (List.getElem?_eq_some_iff.1 hx).2
  rw [List.take_succ_eq_append_getElem hlt, he, List.filter_append]
  have : keep x = true := by unfold keep; rw [hk]; rfl
  simp [this]
theorem keep_take_miss {cs : List ByteArray} {k : Nat} {x : ByteArray} (hx : cs[k]? = some x) (hk : x.toList.isEmpty = true) : (cs.take (k + 1)).filter keep = (cs.take k).filter keep := by
  have hlt := (List.getElem?_eq_some_iff.1 hx).1
  have he := (List.getElem?_eq_some_iff.1 hx).2
  rw [List.take_succ_eq_append_getElem hlt, he, List.filter_append]
  have : keep x = false := by unfold keep; rw [hk]; rfl
  simp [this]

theorem owns_base {B B' n : Nat} {W : World} {v : Value} {xs : List Value} (hB : B ≤ B') (h : W.ownsRow B' 9 1 v n xs) : W.ownsRow B 9 1 v n xs := by
  refine ⟨h.1, ?_⟩
  rcases h.2 with h2 | ⟨g, cap, cur, e, hb, r⟩
  · exact .inl h2
  · exact .inr ⟨g, cap, cur, e, by omega, r⟩

/-! ### 'texts' of two rows that hold the same texts: true. -/
theorem StrRow.nil {B : Nat} {W : World} {v : Value} (h : StrRow B W v []) : ∃ a cap, v = .slice a 0 cap := by
  rcases h with ⟨rfl, _⟩ | ⟨g, cap, rfl, _⟩
  · exact ⟨_, _, rfl⟩
  · exact ⟨_, _, rfl⟩
theorem StrRow.more {B : Nat} {W : World} {v : Value} {xs : List ByteArray} (h : StrRow B W v xs) (hne : xs ≠ []) : ∃ g cap, v = .slice (some ⟨g, 0, none⟩) xs.length cap ∧ g < B ∧ xs.length ≤ cap ∧ ∀ (j : Nat) (x : ByteArray), xs[j]? = some x → W.cell? ⟨g, j, none⟩ = some (.string x) := by
  rcases h with ⟨_, rfl⟩ | h
  · exact absurd rfl hne
  · exact h
end Go.Proofs.YtfemboojdablhaaGreatDoor
