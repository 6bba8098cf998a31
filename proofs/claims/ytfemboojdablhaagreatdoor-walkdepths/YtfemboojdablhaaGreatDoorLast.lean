/- Plain lists: a path's last name. Nothing of the program. -/
import Derived.Test.YtfemboojdablhaaGreatDoorTexts
namespace Go.Proofs.YtfemboojdablhaaGreatDoor

theorem split_cat (c : UInt8) (p q : List UInt8) : splitL c (p ++ c :: q) = splitL c p ++ splitL c q := by
  induction p with
  | nil => rw [List.nil_append, split_same]; rfl
  | cons x r ih =>
    by_cases h : x = c
    · subst h
      rw [List.cons_append, split_same, split_same, ih]; rfl
    · obtain ⟨p1, ps, e1, e2⟩ := split_other c x r h
      obtain ⟨p2, ps2, e3, e4⟩ := split_other c x (r ++ c :: q) h
      rw [List.cons_append, e4, e2]
      rw [ih, e1, List.cons_append] at e3
      simp only [List.cons.injEq] at e3
      rw [← e3.1, ← e3.2]; rfl

/-- The bytes '/' at the end taken away. -/
def trimR (l : List UInt8) : List UInt8 := (l.reverse.dropWhile (fun c => c == 47)).reverse
theorem trimR_snoc (l : List UInt8) : trimR (l ++ [47]) = trimR l := by simp [trimR]
theorem trimR_keep (l : List UInt8) (c : UInt8) (h : ¬ c = 47) : trimR (l ++ [c]) = l ++ [c] := by
  simp [trimR, h]
theorem trimR_nil : trimR [] = [] := rfl

def neL (l : List UInt8) : List (List UInt8) := (splitL 47 l).filter (fun p => !p.isEmpty)
theorem neL_snoc (l : List UInt8) : neL (l ++ [47]) = neL l := by
  unfold neL
  rw [split_cat]
  simp [splitL]
theorem snoc_cases {α : Type} (l : List α) : l = [] ∨ ∃ m x, l = m ++ [x] := by
  rcases List.eq_nil_or_concat l with h | ⟨m, x, h⟩
  · exact .inl h
  · exact .inr ⟨m, x, by simpa using h⟩
theorem neL_trim (n : Nat) : ∀ l : List UInt8, l.length = n → neL l = neL (trimR l) := by
  induction n with
  | zero => intro l h; rw [List.eq_nil_of_length_eq_zero h]; rfl
  | succ n ih =>
    intro l h
    rcases snoc_cases l with rfl | ⟨m, x, rfl⟩
    · simp at h
    · by_cases hx : x = 47
      · subst hx
        rw [neL_snoc, trimR_snoc]
        exact ih m (by simp at h; omega)
      · rw [trimR_keep m x hx]
/-- What is left ends in no '/'. -/
theorem trimR_last (n : Nat) : ∀ l : List UInt8, l.length = n → trimR l = [] ∨ ∃ m x, trimR l = m ++ [x] ∧ ¬ x = 47 := by
  induction n with
  | zero => intro l h; rw [List.eq_nil_of_length_eq_zero h]; exact .inl rfl
  | succ n ih =>
    intro l h
    rcases snoc_cases l with rfl | ⟨m, x, rfl⟩
    · simp at h
    · by_cases hx : x = 47
      · subst hx
        rw [trimR_snoc]
        exact ih m (by simp at h; omega)
      · rw [trimR_keep m x hx]; exact .inr ⟨m, x, rfl, hx⟩

/-- i is where the last '/' of l stands (-1: nowhere), q what stands behind it. -/
def LastAt (l : List UInt8) (i : Int) : Prop := (i = -1 ∧ (47 : UInt8) ∉ l) ∨ ∃ p q, l = p ++ 47 :: q ∧ (47 : UInt8) ∉ q ∧ i = (p.length : Int)
theorem last_bd {l : List UInt8} {i : Int} (h : LastAt l i) : -1 ≤ i ∧ i < (l.length : Int) := by
  rcases h with ⟨rfl, _⟩ | ⟨p, q, rfl, _, rfl⟩
  · omega
  · simp; omega
theorem last_piece {l : List UInt8} {i : Int} (h : LastAt l i) (hl : ∃ m x, l = m ++ [x] ∧ ¬ x = 47) : (neL l).getLast? = some (l.drop (i + 1).toNat) := by
  obtain ⟨m, x, hm, hx⟩ := hl
  rcases h with ⟨rfl, hn⟩ | ⟨p, q, hp, hq, rfl⟩
  · have e : neL l = [l] := by
      unfold neL
      rw [split_end 47 l hn, hm]
      simp
    rw [e]; simp
  · have hq2 : ¬ q = [] := by
      rintro rfl
      rw [hm] at hp
      have := (List.append_inj' hp rfl).2
      simp at this
      exact hx this
    have e : neL l = neL p ++ [q] := by
      unfold neL
      rw [hp, split_cat, split_end 47 q hq, List.filter_append]
      simp [hq2]
    rw [e, hp]
    simp only [List.getLast?_append, List.getLast?_singleton, Option.some_or]
    rw [show ((p.length : Int) + 1).toNat = p.length + 1 from by omega, List.drop_append, List.drop_of_length_le (by omega), show p.length + 1 - p.length = 1 from by omega]
    rfl

def baseS (s : ByteArray) : ByteArray := match (partsS s).getLast? with
  | some x => x
  | none => if s.toList.isEmpty then ⟨#[]⟩ else ⟨#[47]⟩
def trimS (s : ByteArray) : ByteArray := bs (trimR s.data.toList)

theorem toList_bs (l : List UInt8) : (bs l).toList.isEmpty = l.isEmpty := by rw [ByteArray.toList_eq]; rfl
theorem partsS_neL (s : ByteArray) : partsS s = (neL s.data.toList).map bs := by
  unfold partsS cutS neL
  rw [List.filter_map]
  congr 1
  apply List.filter_congr
  intro p _
  simp [keep, toList_bs]
theorem parts_trim (s : ByteArray) : partsS s = (neL (trimR s.data.toList)).map bs := by
  rw [partsS_neL, neL_trim _ s.data.toList rfl]
theorem base_slash {s : ByteArray} (h : (trimS s).toList.isEmpty = true) : baseS s = if s.toList.isEmpty then ⟨#[]⟩ else ⟨#[47]⟩ := by
  unfold trimS at h
  rw [toList_bs] at h
  have e : partsS s = [] := by rw [parts_trim, List.isEmpty_iff.1 h]; rfl
  unfold baseS
  rw [e]; rfl
theorem base_last {s : ByteArray} {i : Int} (h : (trimS s).toList.isEmpty = false) (hi : LastAt (trimS s).data.toList i) : baseS s = (trimS s).extract (i + 1).toNat (trimS s).size := by
  have hd : (trimS s).data.toList = trimR s.data.toList := rfl
  have hl : ∃ m x, (trimS s).data.toList = m ++ [x] ∧ ¬ x = 47 := by
    rw [hd]
    rcases trimR_last _ s.data.toList rfl with e | e
    · exfalso
      unfold trimS at h
      rw [toList_bs, e] at h
      cases h
    · exact e
  have e := last_piece hi hl
  unfold baseS
  rw [parts_trim, ← hd, List.getLast?_map, e, extract_bs]
  simp only [Option.map_some]
  congr 1
  rw [List.take_of_length_le (by simp)]
end Go.Proofs.YtfemboojdablhaaGreatDoor
