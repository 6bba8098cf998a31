/- Plain: the signs from a place on; pieces by jumps over inner pairs. -/
import Derived.Test.YtgpgbobmpdgfeaaDoorBrK
namespace Go.Proofs.YtgpgbobmpdgfeaaDoor

/-- Whether the byte at a place stands behind a backslash that counts. -/
def esc (s : List UInt8) : Nat → Bool
  | 0 => false
  | i + 1 => !esc s i && (s[i]? == some 92)
/-- The signs from a place on. -/
def remS (s : List UInt8) (i : Nat) : List (Nat × UInt8) := signsD (esc s i) i (s.drop i)
theorem rem_zero (s : List UInt8) : remS s 0 = signsD false 0 s := rfl
theorem rem_end {s : List UInt8} {i : Nat} (h : s.length ≤ i) : remS s i = [] := by
  unfold remS
  rw [List.drop_eq_nil_of_le h]
  cases esc s i <;> rfl
theorem esc_next {s : List UInt8} {i : Nat} (h : i < s.length) : esc s (i + 1) = (!esc s i && (s[i] == 92)) := by
  rw [esc, List.getElem?_eq_getElem h]
  rfl
theorem rem_esc {s : List UInt8} {i : Nat} (h : i < s.length) (he : esc s i = true) : remS s i = remS s (i + 1) ∧ esc s (i + 1) = false := by
  have h2 : esc s (i + 1) = false := by rw [esc_next h, he]; rfl
  refine ⟨?_, h2⟩
  unfold remS
  rw [h2, he, drop_cons h, signsD]
theorem rem_hit {s : List UInt8} {i : Nat} (h : i < s.length) (he : esc s i = false) (hs : isSign s[i] = true) : remS s i = (i, s[i]) :: remS s (i + 1) ∧ esc s (i + 1) = false := by
  have hc : s[i] ≠ 92 := fun e => by rw [e] at hs; cases hs
  have h2 : esc s (i + 1) = false := by rw [esc_next h, he]; simpa using hc
  refine ⟨?_, h2⟩
  unfold remS
  rw [h2, he, drop_cons h, signsD, if_neg hc, if_pos hs]
theorem rem_miss {s : List UInt8} {i : Nat} (h : i < s.length) (he : esc s i = false) (hs : isSign s[i] = false) : remS s i = remS s (i + 1) := by
  unfold remS
  by_cases hc : s[i] = 92
  · have h2 : esc s (i + 1) = true := by rw [esc_next h, he]; simpa using hc
    rw [h2, he, drop_cons h, signsD, if_pos hc]
  · have h2 : esc s (i + 1) = false := by rw [esc_next h, he]; simpa using hc
    rw [h2, he, drop_cons h, signsD, if_neg hc, hs]
    rfl
/-- What stands behind a sign of the rest. -/
theorem rem_behind (s : List UInt8) : ∀ (n i : Nat), s.length ≤ i + n → ∀ (r1 r2 : List (Nat × UInt8)) (e : Nat) (c : UInt8), remS s i = r1 ++ (e, c) :: r2 → i ≤ e ∧ (∃ h : e < s.length, s[e] = c) ∧ esc s e = false ∧ esc s (e + 1) = false ∧ isSign c = true ∧ remS s (e + 1) = r2 := by
  intro n
  induction n with
  | zero =>
    intro i hi r1 r2 e c h
    rw [rem_end (by omega)] at h
    cases r1 <;> cases h
  | succ n ih =>
    intro i hi r1 r2 e c h
    by_cases hlt : i < s.length
    · cases he : esc s i with
      | true =>
        rw [(rem_esc hlt he).1] at h
        obtain ⟨h1, h2⟩ := ih (i + 1) (by omega) r1 r2 e c h
        exact ⟨by omega, h2⟩
      | false =>
        cases hs : isSign s[i] with
        | true =>
          obtain ⟨h1, h2⟩ := rem_hit hlt he hs
          rw [h1] at h
          cases r1 with
          | nil =>
            cases h
            exact ⟨Nat.le_refl _, ⟨hlt, rfl⟩, he, h2, hs, rfl⟩
          | cons x r1 =>
            have h := (List.cons.inj h).2
            obtain ⟨h3, h4⟩ := ih (i + 1) (by omega) r1 r2 e c h
            exact ⟨by omega, h4⟩
        | false =>
          rw [rem_miss hlt he hs] at h
          obtain ⟨h3, h4⟩ := ih (i + 1) (by omega) r1 r2 e c h
          exact ⟨by omega, h4⟩
    · rw [rem_end (by omega)] at h
      cases r1 <;> cases h
/-- The commas that stand in no pair, up to where the open one closes. -/
def commasC : Nat → List (Nat × UInt8) → List Nat
  | _, [] => []
  | n, (k, c) :: r => if c = 123 then commasC (n + 1) r else if c = 125 then (if n = 0 then [] else commasC (n - 1) r) else if n = 0 then k :: commasC n r else commasC n r
theorem close_mem : ∀ (r : List (Nat × UInt8)) (n b : Nat), closeD n r = some b → ∃ r1 r2, r = r1 ++ (b, 125) :: r2 := by
  intro r
  induction r with
  | nil => intro n b h; cases h
  | cons x r ih =>
    obtain ⟨k, c⟩ := x
    intro n b h
    rw [closeD] at h
    split at h
    · obtain ⟨r1, r2, e⟩ := ih _ _ h
      exact ⟨(k, c) :: r1, r2, by rw [e]; rfl⟩
    · split at h
      · rename_i hc
        split at h
        · cases h
          exact ⟨[], r, by rw [hc]; rfl⟩
        · obtain ⟨r1, r2, e⟩ := ih _ _ h
          exact ⟨(k, c) :: r1, r2, by rw [e]; rfl⟩
      · obtain ⟨r1, r2, e⟩ := ih _ _ h
        exact ⟨(k, c) :: r1, r2, by rw [e]; rfl⟩
/-- An open pair within an open pair closes ahead of it. -/
theorem close_split : ∀ (r : List (Nat × UInt8)) (d b : Nat), closeD (d + 1) r = some b → ∃ e r1 r2, r = r1 ++ (e, 125) :: r2 ∧ closeD d r = some e ∧ closeD 0 r2 = some b ∧ commasC (d + 1) r = commasC 0 r2 := by
  intro r
  induction r with
  | nil => intro d b h; cases h
  | cons x r ih =>
    obtain ⟨k, c⟩ := x
    intro d b h
    rw [closeD] at h
    by_cases h1 : c = 123
    · rw [if_pos h1] at h
      obtain ⟨e, r1, r2, e1, e2, e3, e4⟩ := ih (d + 1) b h
      exact ⟨e, (k, c) :: r1, r2, by rw [e1]; rfl, by rw [closeD, if_pos h1]; exact e2, e3, by rw [commasC, if_pos h1]; exact e4⟩
    · rw [if_neg h1] at h
      by_cases h2 : c = 125
      · rw [if_pos h2, if_neg (by omega)] at h
        cases d with
        | zero => exact ⟨k, [], r, by rw [h2]; rfl, by rw [closeD, if_neg h1, if_pos h2, if_pos rfl], h, by rw [commasC, if_neg h1, if_pos h2, if_neg (by omega)]⟩
        | succ d =>
          obtain ⟨e, r1, r2, e1, e2, e3, e4⟩ := ih d b h
          exact ⟨e, (k, c) :: r1, r2, by rw [e1]; rfl, by rw [closeD, if_neg h1, if_pos h2, if_neg (by omega)]; exact e2, e3, by rw [commasC, if_neg h1, if_pos h2, if_neg (by omega)]; exact e4⟩
      · rw [if_neg h2] at h
        obtain ⟨e, r1, r2, e1, e2, e3, e4⟩ := ih d b h
        exact ⟨e, (k, c) :: r1, r2, by rw [e1]; rfl, by rw [closeD, if_neg h1, if_neg h2]; exact e2, e3, by rw [commasC, if_neg h1, if_neg h2, if_neg (by omega)]; exact e4⟩
theorem close_shift (j : Nat) : ∀ (r : List (Nat × UInt8)) (n : Nat), closeD n (r.map fun (i, c) => (i + j, c)) = (closeD n r).map (· + j) := by
  intro r
  induction r with
  | nil => intro n; rfl
  | cons x r ih =>
    obtain ⟨k, c⟩ := x
    intro n
    rw [List.map_cons, closeD, closeD, ih, ih, ih]
    split
    · rfl
    · split
      · split <;> rfl
      · rfl
theorem commas_shift (j : Nat) : ∀ (r : List (Nat × UInt8)) (d : Int), commasD d (r.map fun (i, c) => (i + j, c)) = (commasD d r).map (· + j) := by
  intro r
  induction r with
  | nil => intro d; rfl
  | cons x r ih =>
    obtain ⟨k, c⟩ := x
    intro d
    rw [List.map_cons, commasD, commasD, ih, ih, ih]
    split
    · rfl
    · split
      · rfl
      · split <;> rfl
/-- The commas of what is enclosed. -/
theorem commas_take : ∀ (r : List (Nat × UInt8)) (n b : Nat), List.Pairwise (fun x y => x.1 < y.1) r → closeD n r = some b → commasD (n : Int) (r.takeWhile fun x => decide (x.1 < b)) = commasC n r := by
  intro r
  induction r with
  | nil => intro n b _ h; cases h
  | cons x r ih =>
    obtain ⟨k, c⟩ := x
    intro n b hp h
    rw [List.pairwise_cons] at hp
    have hkb : ∀ m, closeD m r = some b → k < b := fun m hm => by
      obtain ⟨r1, r2, e⟩ := close_mem r m b hm
      exact hp.1 (b, 125) (by rw [e]; simp)
    rw [closeD] at h
    by_cases h1 : c = 123
    · rw [if_pos h1] at h
      rw [List.takeWhile_cons_of_pos (by simpa using hkb _ h), commasD, if_pos h1, commasC, if_pos h1]
      exact ih (n + 1) b hp.2 h
    · rw [if_neg h1] at h
      by_cases h2 : c = 125
      · rw [if_pos h2] at h
        by_cases hn : n = 0
        · rw [if_pos hn] at h
          cases h
          rw [List.takeWhile_cons_of_neg (by simp), commasC, if_neg h1, if_pos h2, if_pos hn]
          rfl
        · rw [if_neg hn] at h
          rw [List.takeWhile_cons_of_pos (by simpa using hkb _ h), commasD, if_neg h1, if_pos h2, commasC, if_neg h1, if_pos h2, if_neg hn]
          have := ih (n - 1) b hp.2 h
          rw [show ((n - 1 : Nat) : Int) = (n : Int) - 1 by omega] at this
          exact this
      · rw [if_neg h2] at h
        rw [List.takeWhile_cons_of_pos (by simpa using hkb _ h), commasD, if_neg h1, if_neg h2, commasC, if_neg h1, if_neg h2]
        have := ih n b hp.2 h
        by_cases hn : n = 0
        · rw [if_pos (by omega), if_pos hn, this]
        · rw [if_neg (by omega), if_neg hn, this]
/-- The signs of a beginning. -/
theorem signs_take : ∀ (l : List UInt8) (f : Bool) (k n : Nat), signsD f k (l.take n) = (signsD f k l).takeWhile fun x => decide (x.1 < k + n) := by
  intro l
  induction l with
  | nil => intro f k n; cases f <;> simp [signsD]
  | cons c r ih =>
    intro f k n
    cases n with
    | zero =>
      rw [List.take_zero]
      cases h : signsD f k (c :: r) with
      | nil => cases f <;> rfl
      | cons x xs =>
        have := (signs_at (c :: r) f k x (by rw [h]; simp)).1
        rw [List.takeWhile_cons_of_neg (by simp; omega)]
        cases f <;> rfl
    | succ n =>
      rw [List.take_succ_cons]
      have e : k + (n + 1) = k + 1 + n := by omega
      cases f with
      | true => rw [signsD, signsD, ih, e]
      | false =>
        rw [signsD, signsD, ih, ih, e]
        split
        · rfl
        · split
          · rw [List.takeWhile_cons_of_pos (by simp; omega)]
          · rfl
/-- The pieces between a and b, cut at places of the whole. -/
def cutAbs (s : List UInt8) (b : Nat) : Nat → List Nat → List (List UInt8)
  | i, [] => [(s.drop i).take (b - i)]
  | i, k :: ks => (s.drop i).take (k - i) :: cutAbs s b (k + 1) ks
theorem cut_abs (s : List UInt8) (a b : Nat) : ∀ (ks : List Nat) (i : Nat), i + a ≤ b → (∀ k ∈ ks, k + a < b) → cutAbs s b (i + a) (ks.map (· + a)) = cutAtD ((s.drop a).take (b - a)) i ks := by
  intro ks
  induction ks with
  | nil =>
    intro i hi _
    rw [List.map_nil, cutAbs, cutAtD, List.drop_take, List.drop_drop, Nat.add_comm i a, show b - (a + i) = b - a - i by omega]
  | cons k ks ih =>
    intro i hi hk
    have h1 := hk k (by simp)
    have e : k + a + 1 = (k + 1) + a := by omega
    rw [List.map_cons, cutAbs, cutAtD, e, ih (k + 1) (by omega) (fun x hx => hk x (by simp [hx])), List.drop_take, List.drop_drop, List.take_take, Nat.add_comm i a, show k + a - (a + i) = min (k - i) (b - a - i) by omega]
theorem commas_mem : ∀ (r : List (Nat × UInt8)) (d : Int) (k : Nat), k ∈ commasD d r → ∃ c, (k, c) ∈ r := by
  intro r
  induction r with
  | nil => intro d k h; simp [commasD] at h
  | cons x r ih =>
    obtain ⟨j, c⟩ := x
    intro d k h
    rw [commasD] at h
    have key : ∀ d, k ∈ commasD d r → ∃ c', (k, c') ∈ (j, c) :: r := fun d h => by
      obtain ⟨c', q⟩ := ih d k h
      exact ⟨c', by simp [q]⟩
    split at h
    · exact key _ h
    · split at h
      · exact key _ h
      · split at h
        · rcases List.mem_cons.1 h with e | h
          · exact ⟨c, by rw [e]; simp⟩
          · exact key _ h
        · exact key _ h
theorem rem_shift {s : List UInt8} {i : Nat} (h : esc s i = false) : remS s i = (signsD false 0 (s.drop i)).map fun (j, c) => (j + i, c) := by
  unfold remS
  rw [h, ← signs_shift, Nat.zero_add]
/-- What is enclosed, by places of the whole. -/
theorem enclosed_abs {s : List UInt8} {a : Nat} (h : esc s a = false) : enclosedD (s.drop a) = (closeD 0 (remS s a)).map fun b => ((s.drop a).take (b - a), s.drop (b + 1)) := by
  unfold enclosedD
  rw [rem_shift h, close_shift]
  cases closeD 0 (signsD false 0 (s.drop a)) with
  | none => rfl
  | some k =>
    show some ((s.drop a).take k, (s.drop a).drop (k + 1)) = some ((s.drop a).take (k + a - a), s.drop (k + a + 1))
    rw [Nat.add_sub_cancel, List.drop_drop, show a + (k + 1) = k + a + 1 by omega]
theorem close_lt {s : List UInt8} {a b n : Nat} (h : closeD n (remS s a) = some b) : a ≤ b ∧ b < s.length := by
  obtain ⟨r1, r2, e⟩ := close_mem _ _ _ h
  obtain ⟨h1, ⟨h2, _⟩, _⟩ := rem_behind s s.length a (by omega) r1 r2 b 125 e
  exact ⟨h1, h2⟩
/-- The pieces of what is enclosed, by places of the whole. -/
theorem pieces_abs {s : List UInt8} {a b : Nat} (h : esc s a = false) (hc : closeD 0 (remS s a) = some b) : piecesB ((s.drop a).take (b - a)) = cutAbs s b a (commasC 0 (remS s a)) := by
  obtain ⟨h1, h2⟩ := close_lt hc
  have hp : List.Pairwise (fun x y => x.1 < y.1) (remS s a) := signs_sorted _ _ _
  have hk := commas_take _ 0 b hp hc
  have hs : (remS s a).takeWhile (fun x => decide (x.1 < b)) = (signsD false 0 ((s.drop a).take (b - a))).map fun (j, c) => (j + a, c) := by
    rw [← signs_shift, Nat.zero_add, signs_take, show a + (b - a) = b by omega]
    unfold remS
    rw [h]
  rw [← hk, hs, commas_shift]
  have := cut_abs s a b (commasD ((0 : Nat) : Int) (signsD false 0 ((s.drop a).take (b - a)))) 0 (by omega) (fun k hkm => by
    obtain ⟨c, hm⟩ := commas_mem _ _ _ hkm
    have := (signs_at _ _ _ _ hm).2
    simp at this
    omega)
  rw [Nat.zero_add] at this
  rw [this]
  rfl
end Go.Proofs.YtgpgbobmpdgfeaaDoor
