/- Plain: as many steps as a text has bytes are enough. -/
import Derived.Test.YtgpgbobmpdgfeaaDoorBrB
namespace Go.Proofs.YtgpgbobmpdgfeaaDoor
theorem cutAt_len (s : List UInt8) : ∀ (ks : List Nat) (i : Nat) (p : List UInt8), p ∈ cutAtD s i ks → p.length ≤ s.length := by
  intro ks
  induction ks with
  | nil => intro i p h; rw [cutAtD] at h; rw [List.mem_singleton.1 h, List.length_drop]; omega
  | cons k ks ih =>
    intro i p h
    rw [cutAtD] at h
    rcases List.mem_cons.1 h with rfl | h
    · rw [List.length_take, List.length_drop]; omega
    · exact ih _ _ h
theorem enclosed_len {x inner behind : List UInt8} (h : enclosedD x = some (inner, behind)) : x ≠ [] ∧ inner.length ≤ x.length ∧ behind.length ≤ x.length := by
  unfold enclosedD at h
  split at h
  · cases h
  · rename_i k hk
    cases h
    refine ⟨?_, by rw [List.length_take]; omega, by rw [List.length_drop]; omega⟩
    rintro rfl
    simp [signsD, closeD] at hk
theorem first_len (s : List UInt8) : ∀ (r : List (Nat × UInt8)) {a : List UInt8} {m : MidD} {b : List UInt8}, firstFrom s r = some (a, m, b) → b.length < s.length ∧ ∀ ps, m = .list ps → ps ≠ [] ∧ ∀ p ∈ ps, p.length < s.length := by
  intro r
  induction r with
  | nil => intro a m b h; cases h
  | cons x r ih =>
    obtain ⟨k, c⟩ := x
    intro a m b h
    rw [firstFrom] at h
    by_cases hc : c = 123
    · rw [if_pos hc] at h
      cases he : enclosedD (s.drop (k + 1)) with
      | none => rw [he] at h; exact ih h
      | some p =>
        obtain ⟨inner, behind⟩ := p
        rw [he] at h
        simp only at h
        cases hm : midD inner with
        | none => rw [hm] at h; exact ih h
        | some m' =>
          rw [hm] at h
          cases h
          obtain ⟨e1, e2, e3⟩ := enclosed_len he
          have hl : 0 < (s.drop (k + 1)).length := List.length_pos_iff.2 e1
          rw [List.length_drop] at hl e2 e3
          refine ⟨by omega, ?_⟩
          intro ps hps
          subst hps
          unfold midD at hm
          split at hm
          · rename_i hlt
            cases hm
            refine ⟨fun h0 => by rw [h0] at hlt; simp at hlt, fun p hp => ?_⟩
            have := cutAt_len inner _ _ p hp
            omega
          · cases hr : rowD inner with
            | none => rw [hr] at hm; cases hm
            | some q => rw [hr] at hm; cases hm
    · rw [if_neg hc] at h
      exact ih h
theorem texts_fuel : ∀ (f g : Nat) (s : List UInt8), s.length ≤ f → s.length ≤ g → textsD f s = textsD g s := by
  intro f
  induction f with
  | zero =>
    intro g s hf hg
    obtain rfl : s = [] := List.length_eq_zero_iff.1 (by omega)
    cases g with
    | zero => rfl
    | succ g => rfl
  | succ f ih =>
    intro g s hf hg
    cases g with
    | zero =>
      obtain rfl : s = [] := List.length_eq_zero_iff.1 (by omega)
      rfl
    | succ g =>
      rw [textsD, textsD]
      cases hx : firstD s with
      | none => rfl
      | some p =>
        obtain ⟨a, m, b⟩ := p
        obtain ⟨h1, h2⟩ := first_len s _ hx
        simp only
        rw [ih g b (by omega) (by omega)]
        cases m with
        | row x y l => rfl
        | list ps =>
          have : ps.flatMap (textsD f) = ps.flatMap (textsD g) := by
            have hp := (h2 ps rfl).2
            clear hx h2
            induction ps with
            | nil => rfl
            | cons p ps ihp =>
              rw [List.flatMap_cons, List.flatMap_cons, ihp (fun q hq => hp q (by simp [hq]))]
              have := hp p (by simp)
              rw [ih g p (by omega) (by omega)]
          simp only [this]
theorem texts_ne : ∀ (f : Nat) (s : List UInt8), textsD f s ≠ [] := by
  intro f
  induction f with
  | zero => intro s h; cases h
  | succ f ih =>
    intro s h
    rw [textsD] at h
    cases hx : firstD s with
    | none => rw [hx] at h; cases h
    | some p =>
      obtain ⟨a, m, b⟩ := p
      rw [hx] at h
      simp only [List.flatMap_eq_nil_iff, List.map_eq_nil_iff] at h
      cases m with
      | row x y l =>
        have := h (rowTextD l x) (by
          refine List.mem_map.2 ⟨x, ?_, rfl⟩
          unfold numsD
          exact List.mem_map.2 ⟨0, by simp, by simp⟩)
        exact ih b this
      | list ps =>
        obtain ⟨hne, _⟩ := (first_len s _ hx).2 ps rfl
        match ps, hne with
        | p :: ps, _ =>
          obtain ⟨y, hy⟩ := List.exists_mem_of_ne_nil _ (ih p)
          exact ih b (h y (List.mem_flatMap.2 ⟨p, by simp, hy⟩))
end Go.Proofs.YtgpgbobmpdgfeaaDoor
