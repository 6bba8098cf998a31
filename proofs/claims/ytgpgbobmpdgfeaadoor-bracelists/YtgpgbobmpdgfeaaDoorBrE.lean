/- Plain: of far too many, the first ones alone. -/
import Derived.Test.YtgpgbobmpdgfeaaDoorBrD
namespace Go.Proofs.YtgpgbobmpdgfeaaDoor
/-- A beginning of a list: all of it, or at least n. -/
def Part {α : Type} (n : Nat) (x y : List α) : Prop := ∃ z, y = x ++ z ∧ (z = [] ∨ n ≤ x.length)
theorem Part.take {α : Type} {n : Nat} {x y : List α} (h : Part n x y) : x.take n = y.take n := by
  obtain ⟨z, rfl, rfl | h⟩ := h
  · rw [List.append_nil]
  · rw [List.take_append_of_le_length h]
theorem part_take {α : Type} (n : Nat) (y : List α) : Part n (y.take n) y := by
  refine ⟨y.drop n, (List.take_append_drop n y).symm, ?_⟩
  rw [List.length_take, List.drop_eq_nil_iff]
  omega
theorem flat_len {α β : Type} (f : α → List β) (hf : ∀ a, f a ≠ []) : ∀ l : List α, l.length ≤ (l.flatMap f).length := by
  intro l
  induction l with
  | nil => simp
  | cons a l ih =>
    rw [List.flatMap_cons, List.length_append, List.length_cons]
    have := List.length_pos_iff.2 (hf a)
    omega
theorem part_mid {α β : Type} {n : Nat} {x y : List α} (f : α → List β) (hf : ∀ a, f a ≠ []) (h : Part n x y) : Part n (x.flatMap f) (y.flatMap f) := by
  obtain ⟨z, rfl, h⟩ := h
  refine ⟨z.flatMap f, List.flatMap_append, ?_⟩
  rcases h with rfl | h
  · exact .inl rfl
  · exact .inr (Nat.le_trans h (flat_len f hf x))
theorem part_rest {α β γ : Type} {n : Nat} {r s : List β} (m : List α) (hm : m ≠ []) (g : α → β → γ) (h : Part n r s) : (m.flatMap fun a => r.map (g a)).take n = (m.flatMap fun a => s.map (g a)).take n := by
  obtain ⟨z, rfl, rfl | h⟩ := h
  · rw [List.append_nil]
  · match m, hm with
    | a :: m, _ =>
      rw [List.flatMap_cons, List.flatMap_cons, List.map_append, List.append_assoc]
      rw [List.take_append_of_le_length (by rw [List.length_map]; exact h), List.take_append_of_le_length (by rw [List.length_map]; exact h)]
/-- What the document's loops hand out of a beginning of each is what they would of the whole. -/
theorem part_prod {α β γ : Type} {n : Nat} {m m' : List α} {r r' : List β} (g : α → β → γ) (hm : m' ≠ []) (hr : r ≠ []) (h1 : Part n m' m) (h2 : Part n r' r) : (m'.flatMap fun a => r'.map (g a)).take n = (m.flatMap fun a => r.map (g a)).take n := by
  rw [part_rest m' hm g h2]
  exact (part_mid (fun a => r.map (g a)) (fun a => by simp [hr]) h1).take
end Go.Proofs.YtgpgbobmpdgfeaaDoor
