/- Plain lists: a text cut at a byte, the pieces that are not empty, the last one. Nothing of the program. -/
import Derived.WalkKit
import Derived.WalkSpells
import Derived.WalkLawsBesides
namespace Go.Proofs.YtfemboojdablhaaGreatDoor

def splitL (c : UInt8) : List UInt8 → List (List UInt8)
  | [] => [[]]
  | x :: r => if x = c then [] :: splitL c r else
      match splitL c r with
      | [] => [[x]]
      | p :: ps => (x :: p) :: ps

theorem split_ne (c : UInt8) (l : List UInt8) : splitL c l ≠ [] := by
  cases l with
  | nil => simp [splitL]
  | cons x r =>
    unfold splitL
    by_cases h : x = c
    · rw [if_pos h]; simp
    · rw [if_neg h]; cases splitL c r <;> simp
theorem split_same (c : UInt8) (r : List UInt8) : splitL c (c :: r) = [] :: splitL c r := by
  conv => lhs; unfold splitL
  rw [if_pos rfl]
theorem split_other (c x : UInt8) (r : List UInt8) (h : ¬ x = c) : ∃ p ps, splitL c r = p :: ps ∧ splitL c (x :: r) = (x :: p) :: ps := by
  cases e : splitL c r with
  | nil => exact absurd e (split_ne c r)
  | cons p ps =>
    refine ⟨p, ps, rfl, ?_⟩
    conv => lhs; unfold splitL
    rw [if_neg h, e]
theorem split_end (c : UInt8) (p : List UInt8) (h : c ∉ p) : splitL c p = [p] := by
  induction p with
  | nil => rfl
  | cons x r ih =>
    have hx : ¬ x = c := fun e => h (by simp [e])
    obtain ⟨p, ps, e1, e2⟩ := split_other c x r hx
    rw [ih (fun hm => h (by simp [hm]))] at e1
    simp only [List.cons.injEq] at e1
    rw [e2, ← e1.1, ← e1.2]
theorem split_hit (c : UInt8) (p r : List UInt8) (h : c ∉ p) : splitL c (p ++ c :: r) = p :: splitL c r := by
  induction p with
  | nil => exact split_same c r
  | cons x q ih =>
    have hx : ¬ x = c := fun e => h (by simp [e])
    obtain ⟨p, ps, e1, e2⟩ := split_other c x (q ++ c :: r) hx
    rw [ih (fun hm => h (by simp [hm]))] at e1
    simp only [List.cons.injEq] at e1
    rw [List.cons_append, e2, ← e1.1, ← e1.2]
theorem split_length (c : UInt8) (l : List UInt8) : (splitL c l).length ≤ l.length + 1 := by
  induction l with
  | nil => simp [splitL]
  | cons x r ih =>
    by_cases h : x = c
    · subst h; rw [split_same]; simp; omega
    · obtain ⟨p, ps, e1, e2⟩ := split_other c x r h
      rw [e1] at ih
      rw [e2]; simp at ih ⊢; omega

def bs (l : List UInt8) : ByteArray := ⟨l.toArray⟩
theorem bs_data (s : ByteArray) : bs s.data.toList = s := rfl
theorem data_bs (l : List UInt8) : (bs l).data.toList = l := rfl
theorem bs_inj {s t : ByteArray} (h : s.data.toList = t.data.toList) : s = t := by
  rw [← bs_data s, ← bs_data t, h]
theorem extract_bs (s : ByteArray) (a b : Nat) : s.extract a b = bs ((s.data.toList.drop a).take (b - a)) := by
  apply bs_inj
  rw [data_bs, ByteArray.data_extract, Array.toList_extract, List.extract_eq_take_drop]

def cutS (c : UInt8) (s : ByteArray) : List ByteArray := (splitL c s.data.toList).map bs
def keep (p : ByteArray) : Bool := !p.toList.isEmpty
def partsS (s : ByteArray) : List ByteArray := (cutS 47 s).filter keep
theorem cutS_length (c : UInt8) (s : ByteArray) : (cutS c s).length ≤ s.size + 1 := by
  have := split_length c s.data.toList
  unfold cutS
  rw [List.length_map]
  simpa using this
theorem partsS_length (s : ByteArray) : (partsS s).length ≤ s.size + 1 :=
  Nat.le_trans (List.length_filter_le _ _) (cutS_length 47 s)

/-! ### The state of a loop that cuts: k bytes have been looked at, the piece at hand began at f. -/
def CutSt (c : UInt8) (s : ByteArray) (k f : Nat) (done : List ByteArray) : Prop :=
  (k ≤ s.size ∧ f ≤ k ∧ c ∉ (s.data.toList.drop f).take (k - f) ∧ cutS c s = done ++ (splitL c (s.data.toList.drop f)).map bs) ∨ (k = s.size + 1 ∧ done = cutS c s)

theorem size_list (s : ByteArray) : s.data.toList.length = s.size := by simp
theorem drop_get (s : ByteArray) (k : Nat) (h : k < s.size) : s.data.toList.drop k = s[k] :: s.data.toList.drop (k + 1) := by
  rw [List.drop_eq_getElem_cons (by simpa using h)]; rfl
theorem cutSt_zero (c : UInt8) (s : ByteArray) : CutSt c s 0 0 [] := .inl ⟨Nat.zero_le _, Nat.le_refl _, by simp, by simp [cutS]⟩
theorem cutSt_room {c : UInt8} {s : ByteArray} {k f : Nat} {done : List ByteArray} (h : CutSt c s k f done) (hk : k ≤ s.size) : done.length + 1 ≤ s.size + 1 := by
  rcases h with ⟨_, _, _, h4⟩ | ⟨h1, _⟩
  · have h5 := cutS_length c s
    rw [h4, List.length_append, List.length_map] at h5
    have h6 : 1 ≤ (splitL c (s.data.toList.drop f)).length := by
      cases e : splitL c (s.data.toList.drop f) with
      | nil => exact absurd e (split_ne _ _)
      | cons p ps => simp
    omega
  · omega
theorem cutSt_from {c : UInt8} {s : ByteArray} {k f : Nat} {done : List ByteArray} (h : CutSt c s k f done) (hk : k ≤ s.size) : f ≤ k := by
  rcases h with ⟨_, h2, _, _⟩ | ⟨h1, _⟩
  · exact h2
  · omega
theorem cutSt_end {c : UInt8} {s : ByteArray} {f : Nat} {done : List ByteArray} (h : CutSt c s s.size f done) : CutSt c s (s.size + 1) (s.size + 1) (done ++ [s.extract f s.size]) := by
  refine .inr ⟨rfl, ?_⟩
  rcases h with ⟨_, h2, h3, h4⟩ | ⟨h1, _⟩
  · have e : (s.data.toList.drop f).take (s.size - f) = s.data.toList.drop f := List.take_of_length_le (by simp)
    rw [extract_bs, e]
    rw [e] at h3
    rw [h4, split_end c _ h3]; rfl
  · omega
theorem split_at (s : ByteArray) (f k : Nat) (hf : f ≤ k) (hk : k < s.size) : s.data.toList.drop f = (s.data.toList.drop f).take (k - f) ++ s[k] :: s.data.toList.drop (k + 1) := by
  rw [← drop_get s k hk]
  have : s.data.toList.drop k = (s.data.toList.drop f).drop (k - f) := by rw [List.drop_drop]; congr 1; omega
  rw [this, List.take_append_drop]
theorem cutSt_hit {c : UInt8} {s : ByteArray} {k f : Nat} {done : List ByteArray} (h : CutSt c s k f done) (hk : k < s.size) (hc : s[k] = c) : CutSt c s (k + 1) (k + 1) (done ++ [s.extract f k]) := by
  rcases h with ⟨_, h2, h3, h4⟩ | ⟨h1, _⟩
  · refine .inl ⟨by omega, Nat.le_refl _, by simp, ?_⟩
    rw [h4, split_at s f k h2 hk, hc, split_hit c _ _ h3, extract_bs]
    simp
  · omega
theorem cutSt_miss {c : UInt8} {s : ByteArray} {k f : Nat} {done : List ByteArray} (h : CutSt c s k f done) (hk : k < s.size) (hc : ¬ s[k] = c) : CutSt c s (k + 1) f done := by
  rcases h with ⟨_, h2, h3, h4⟩ | ⟨h1, _⟩
  · refine .inl ⟨by omega, by omega, ?_, h4⟩
    rw [split_at s f k h2 hk, List.take_append]
    have hl : ((s.data.toList.drop f).take (k - f)).length = k - f := by simp; omega
    rw [hl, List.take_of_length_le (by omega), show k + 1 - f - (k - f) = 1 from by omega]
    simp only [List.mem_append, not_or]
    exact ⟨h3, by simp; exact fun e => hc e.symm⟩
  · omega
theorem cutSt_out {c : UInt8} {s : ByteArray} {k f : Nat} {done : List ByteArray} (h : CutSt c s k f done) (hk : ¬ k ≤ s.size) : done = cutS c s := by
  rcases h with ⟨h1, _⟩ | ⟨_, h2⟩
  · omega
  · exact h2
theorem cutSt_le {c : UInt8} {s : ByteArray} {k f : Nat} {done : List ByteArray} (h : CutSt c s k f done) : k ≤ s.size + 1 := by
  rcases h with ⟨h1, _⟩ | ⟨h1, _⟩ <;> omega
end Go.Proofs.YtfemboojdablhaaGreatDoor
