/- Plain: signs behind a place; a text without braces ahead of another. -/
import Derived.Test.YtgpgbobmpdgfeaaDoorBrA
namespace Go.Proofs.YtgpgbobmpdgfeaaDoor
theorem signs_shift (s : List UInt8) : ∀ (b : Bool) (k j : Nat), signsD b (k + j) s = (signsD b k s).map fun (i, c) => (i + j, c) := by
  induction s with
  | nil => intro b k j; cases b <;> rfl
  | cons c s ih =>
    intro b k j
    have e : k + j + 1 = k + 1 + j := by omega
    cases b with
    | true => rw [signsD, signsD, e, ih]
    | false =>
      rw [signsD, signsD, e, ih, ih]
      by_cases h : c = 92
      · rw [if_pos h, if_pos h]
      · rw [if_neg h, if_neg h]
        cases hs : isSign c <;> simp <;> exact ih _ _ _
theorem signs_append (s t : List UInt8) : ∀ (k : Nat), (∀ c ∈ s, c ≠ 92) → signsD false k (s ++ t) = signsD false k s ++ signsD false (k + s.length) t := by
  induction s with
  | nil => intro k _; simp [signsD]
  | cons c s ih =>
    intro k h
    have hc : c ≠ 92 := h c (by simp)
    have hi := ih (k + 1) (fun d hd => h d (by simp [hd]))
    have e : k + (c :: s).length = k + 1 + s.length := by simp; omega
    rw [List.cons_append, signsD, signsD, if_neg hc, if_neg hc, hi, e]
    cases hs : isSign c <;> simp
/-- Signs that open nothing are passed over. -/
theorem first_skip (s : List UInt8) (a b : List (Nat × UInt8)) (h : ∀ x ∈ a, x.2 ≠ 123) : firstFrom s (a ++ b) = firstFrom s b := by
  induction a with
  | nil => rfl
  | cons x a ih =>
    obtain ⟨k, c⟩ := x
    have hc : c ≠ 123 := h (k, c) (by simp)
    rw [List.cons_append, firstFrom, if_neg hc]
    exact ih (fun y hy => h y (by simp [hy]))
theorem first_ahead (s t : List UInt8) : ∀ (r : List (Nat × UInt8)), firstFrom (s ++ t) (r.map fun (i, c) => (i + s.length, c)) = (firstFrom t r).map fun (a, m, b) => (s ++ a, m, b) := by
  intro r
  induction r with
  | nil => rfl
  | cons x r ih =>
    obtain ⟨k, c⟩ := x
    rw [List.map_cons]
    show firstFrom (s ++ t) ((k + s.length, c) :: _) = _
    rw [firstFrom, firstFrom]
    have e1 : (s ++ t).drop (k + s.length + 1) = t.drop (k + 1) := by
      rw [show k + s.length + 1 = s.length + (k + 1) by omega, ← List.drop_drop, List.drop_left]
    have e2 : (s ++ t).take (k + s.length) = s ++ t.take k := by
      rw [Nat.add_comm, List.take_length_add_append]
    rw [e1, e2]
    by_cases h : c = 123
    · rw [if_pos h, if_pos h]
      cases enclosedD (t.drop (k + 1)) with
      | none => exact ih
      | some p =>
        obtain ⟨inner, behind⟩ := p
        simp only
        cases midD inner with
        | none => exact ih
        | some m => rfl
    · rw [if_neg h, if_neg h]
      exact ih
theorem signs_mem (s : List UInt8) : ∀ (b : Bool) (k : Nat) (x : Nat × UInt8), x ∈ signsD b k s → x.2 ∈ s := by
  induction s with
  | nil => intro b k x h; cases b <;> cases h
  | cons c s ih =>
    intro b k x h
    cases b with
    | true => rw [signsD] at h; exact List.mem_cons_of_mem _ (ih _ _ _ h)
    | false =>
      rw [signsD] at h
      split at h
      · exact List.mem_cons_of_mem _ (ih _ _ _ h)
      · split at h
        · rcases List.mem_cons.1 h with rfl | h
          · simp
          · exact List.mem_cons_of_mem _ (ih _ _ _ h)
        · exact List.mem_cons_of_mem _ (ih _ _ _ h)
/-- What stands ahead, without braces and backslashes, stands ahead of each text. -/
theorem firstD_ahead (s t : List UInt8) (h1 : ∀ c ∈ s, c ≠ 92) (h2 : ∀ c ∈ s, c ≠ 123) : firstD (s ++ t) = (firstD t).map fun (a, m, b) => (s ++ a, m, b) := by
  unfold firstD
  rw [signs_append s t 0 h1, first_skip _ _ _ (fun x hx => h2 _ (signs_mem s _ _ x hx)), signs_shift t false 0 s.length]
  exact first_ahead s t _
theorem texts_ahead (f : Nat) (s t : List UInt8) (h1 : ∀ c ∈ s, c ≠ 92) (h2 : ∀ c ∈ s, c ≠ 123) : textsD f (s ++ t) = (textsD f t).map (s ++ ·) := by
  cases f with
  | zero => rfl
  | succ f =>
    rw [textsD, textsD, firstD_ahead s t h1 h2]
    cases firstD t with
    | none => rfl
    | some p =>
      obtain ⟨a, m, b⟩ := p
      simp only [Option.map_some, List.map_flatMap, List.map_map]
      congr 1
      funext one
      congr 1
      funext rest
      simp
end Go.Proofs.YtgpgbobmpdgfeaaDoor
