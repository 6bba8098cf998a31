/- The document's Expand, and both Expands in one form. -/
import Derived.Test.YtgpgbobmpdgfeaaDoorBsE
import Derived.Test.YtgpgbobmpdgfeaaDoorBrV
namespace Go.Proofs.YtgpgbobmpdgfeaaDoor
open Go.RowKit Go.Shelf

theorem expd_ok : ∀ (f : Nat) (s : List UInt8), s.length ≤ f → s.length ≤ 1000000 → ExpdOK f s := by
  intro f
  induction f with
  | zero =>
    intro s hs hl w
    have : s = [] := List.length_eq_zero_iff.1 (by omega)
    subst this
    exact expd_none 0 [] (by simp) rfl (fun p hp => absurd hp (Nat.not_lt_zero _)) w
  | succ f ih =>
    intro s hs hl w
    have hE : ∀ p, p.length < s.length → ExpdOK f p := fun p hp => ih p (by omega) (by omega)
    cases hf : firstD s with
    | none =>
      have ht : textsD (f + 1) s = [s] := by rw [textsD, hf]
      rw [ht]
      exact expd_none f s hl hf hE w
    | some z =>
      obtain ⟨ahead, m, behind⟩ := z
      have ht : textsD (f + 1) s = (midsD f m).flatMap (restF ahead (textsD f behind)) := by
        rw [textsD, hf]
        cases m <;> rfl
      rw [ht]
      obtain ⟨inner, hm, hlen⟩ := first_parts s _ hf
      refine expd_some f s ahead behind m hl hf hE (fun x hx => ?_) (fun x hx => ?_) w
      · cases m with
        | list ps =>
          have hx : x ∈ ps.flatMap (textsD f) := hx
          rw [List.mem_flatMap] at hx
          obtain ⟨p, hp, hx⟩ := hx
          have := texts_bound f p x hx
          rw [mid_list hm] at hp
          have := cutAt_len inner _ 0 p hp
          omega
        | row a b l =>
          have := rows_len hm hx
          omega
      · have := texts_bound f behind x hx
        omega
set_option maxRecDepth 100000 in
set_option maxHeartbeats 2000000 in
theorem expandD_any (s : List UInt8) (w : World) (hbig : s.length ≤ 9223372036854775807) : Calls Tryd.prog 7 #[.string (bs s)] w (ExpV w s) := by
  have hsz := bs_size s
  by_cases h2 : s.length ≤ 200
  · have hI : ¬ ((200 : Int) < (s.length : Int)) := by omega
    have hex := expd_ok s.length s (Nat.le_refl _) (by omega) w
    go_enter Tryd.func7, Tryd.ntmps7
    go_wp2_with fail
    refine hex.mono ?_
    rintro e w1 ⟨v, rfl, hrow, hb⟩
    clear hex
    by_cases h3 : (textsD s.length s).length ≤ 200
    · rw [List.take_of_length_le (by omega)] at hrow
      obtain ⟨n, hn⟩ : ∃ n, (textsD s.length s).length = n := ⟨_, rfl⟩
      rw [hn] at hrow
      obtain ⟨va, vc, rfl⟩ := ownsRow_form hrow
      have hI3 : ¬ ((200 : Int) < (n : Int)) := by omega
      go_wp2
      go_ret2
      exact ⟨_, _, rfl, hb, .inr (.inr ⟨h2, h3, rfl, by rw [hn]; exact hrow⟩)⟩
    · obtain ⟨n, hn⟩ : ∃ n, ((textsD s.length s).take 201).length = n := ⟨_, rfl⟩
      rw [hn] at hrow
      rw [List.length_take] at hn
      obtain ⟨va, vc, rfl⟩ := ownsRow_form hrow
      have hI3 : (200 : Int) < (n : Int) := by omega
      go_wp2
      go_ret2
      exact ⟨_, _, rfl, hb, .inr (.inl ⟨h2, by omega, rfl, rfl⟩)⟩
  · have hI : (200 : Int) < (s.length : Int) := by omega
    go_enter Tryd.func7, Tryd.ntmps7
    go_wp2
    go_ret2
    exact ⟨_, _, rfl, Below.refl _ _, .inl ⟨by omega, rfl, rfl⟩⟩
/-- The error that Expand answers. -/
def errD (s : List UInt8) : Int := if 200 < s.length then 1 else if 200 < (textsD s.length s).length then 4 else 0
/-- The list that Expand answers. -/
def listD (s : List UInt8) : List (List UInt8) := if 200 < s.length then [] else if 200 < (textsD s.length s).length then [] else textsD s.length s
theorem listD_len (s : List UInt8) : (listD s).length ≤ 200 := by
  unfold listD
  split
  · simp
  · split
    · simp
    · omega
theorem errD_cases (s : List UInt8) : (200 < s.length ∧ errD s = 1 ∧ listD s = []) ∨ (s.length ≤ 200 ∧ 200 < (textsD s.length s).length ∧ errD s = 4 ∧ listD s = []) ∨ (s.length ≤ 200 ∧ (textsD s.length s).length ≤ 200 ∧ errD s = 0 ∧ listD s = textsD s.length s) := by
  unfold errD listD
  by_cases h : 200 < s.length
  · rw [if_pos h, if_pos h]
    exact .inl ⟨h, rfl, rfl⟩
  · rw [if_neg h, if_neg h]
    by_cases h2 : 200 < (textsD s.length s).length
    · rw [if_pos h2, if_pos h2]
      exact .inr (.inl ⟨by omega, h2, rfl, rfl⟩)
    · rw [if_neg h2, if_neg h2]
      exact .inr (.inr ⟨by omega, by omega, rfl, rfl⟩)
theorem expV_one {w w' : World} {s : List UInt8} {e : Ending} (h : ExpV w s e w') : ∃ a c, e = .returned (.tuple #[.slice a (listD s).length c, .int .i64 (errD s)]) ∧ Below w.heap.size w w' ∧ w'.ownsRow w.heap.size 9 1 (.slice a (listD s).length c) (listD s).length (strs (listD s)) := by
  obtain ⟨v, err, rfl, hb, hc⟩ := h
  have hk : err = errD s ∧ w'.ownsRow w.heap.size 9 1 v (listD s).length (strs (listD s)) := by
    rcases errD_cases s with ⟨q, q1, q2⟩ | ⟨q, qq, q1, q2⟩ | ⟨q, qq, q1, q2⟩
    · rw [q1, q2]
      rcases hc with ⟨_, h1, h2⟩ | ⟨h, _⟩ | ⟨h, _⟩
      · rw [h2]
        exact ⟨h1, World.ownsRow_nil _ _ _ _⟩
      · omega
      · omega
    · rw [q1, q2]
      rcases hc with ⟨h, _⟩ | ⟨_, _, h1, h2⟩ | ⟨_, h, _⟩
      · omega
      · rw [h2]
        exact ⟨h1, World.ownsRow_nil _ _ _ _⟩
      · omega
    · rw [q1, q2]
      rcases hc with ⟨h, _⟩ | ⟨_, h, _⟩ | ⟨_, _, h1, h2⟩
      · omega
      · omega
      · exact ⟨h1, h2⟩
  obtain ⟨rfl, hrow⟩ := hk
  obtain ⟨a, c, rfl⟩ := ownsRow_form hrow
  exact ⟨a, c, rfl, hb, hrow⟩
end Go.Proofs.YtgpgbobmpdgfeaaDoor
