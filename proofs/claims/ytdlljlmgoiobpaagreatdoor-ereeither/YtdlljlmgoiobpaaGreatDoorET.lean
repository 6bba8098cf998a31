/- Merged: EtA, EtB, EtC, EtD. -/
import Derived.Test.YtdlljlmgoiobpaaGreatDoorER
/- What is read by itself is read the same within a longer text: brackets. -/
namespace Go.Proofs.YtdlljlmgoiobpaaGreatDoor
theorem takeWhile_mem {p : UInt8 → Bool} {a : UInt8} {l : List UInt8} (h : a ∈ l.takeWhile p) : p a = true := by
  induction l with
  | nil => cases h
  | cons c l ih =>
    rw [List.takeWhile_cons] at h
    split at h
    · rcases List.mem_cons.1 h with rfl | h
      · assumption
      · exact ih h
    · cases h
theorem takeWhile_stop {p : UInt8 → Bool} {y s : List UInt8} (h : ∃ c ∈ y, p c = false) : (y ++ s).takeWhile p = y.takeWhile p ∧ (y.takeWhile p).length < y.length := by
  induction y with
  | nil => obtain ⟨c, hc, _⟩ := h; cases hc
  | cons c y ih =>
    by_cases hp : p c = true
    · have h' : ∃ d ∈ y, p d = false := by
        obtain ⟨d, hd, hpd⟩ := h
        rcases List.mem_cons.1 hd with rfl | hd
        · rw [hp] at hpd; cases hpd
        · exact ⟨d, hd, hpd⟩
      obtain ⟨i1, i2⟩ := ih h'
      rw [List.cons_append, List.takeWhile_cons, List.takeWhile_cons, if_pos hp, if_pos hp, i1]
      exact ⟨rfl, by simp; omega⟩
    · rw [List.cons_append, List.takeWhile_cons, List.takeWhile_cons, if_neg hp, if_neg hp]
      exact ⟨rfl, by simp⟩
theorem className_on {x : List UInt8} (s : List UInt8) (h : 93 ∈ x) : className (x ++ s) = className x := by
  match x, h with
  | [c], h =>
    have : c = 93 := (List.mem_singleton.1 h).symm
    subst this
    unfold className
    rw [if_neg (by intro hc; have := hc.1; cases s <;> simp at this), if_neg (by intro hc; have := hc.1; simp at this)]
  | c :: d :: y, h =>
    by_cases hcd : c = 91 ∧ d = 58
    · obtain ⟨rfl, rfl⟩ := hcd
      have hy : 93 ∈ y := by simpa using h
      have hst := takeWhile_stop (p := isLow) (s := s) ⟨93, hy, by decide⟩
      unfold className
      have e1 : (91 :: 58 :: y ++ s).take 2 = (91 :: 58 :: y).take 2 := rfl
      have e2 : (91 :: 58 :: y ++ s).drop 2 = y ++ s := rfl
      have e3 : (91 :: 58 :: y : List UInt8).drop 2 = y := rfl
      rw [e1, e2, e3, hst.1]
      obtain ⟨t, ht⟩ : ∃ t, y.takeWhile isLow = t := ⟨_, rfl⟩
      rw [ht] at hst ⊢
      have e4 : ((y ++ s).drop t.length).take 2 = [58, 93] ↔ (y.drop t.length).take 2 = [58, 93] := by
        rw [List.drop_append_of_le_length (by omega)]
        have hsp : y = t ++ y.drop t.length := by
          rw [← ht]
          have := List.takeWhile_append_dropWhile (p := isLow) (l := y)
          conv => lhs; rw [← this]
          congr 1
          have h2 := congrArg (List.drop (y.takeWhile isLow).length) this
          rw [List.drop_left] at h2
          exact h2
        match hz : y.drop t.length with
        | [] =>
          have := congrArg List.length hz
          rw [List.length_drop] at this
          simp at this
          omega
        | [e] =>
          have h93 : 93 ∈ t ++ [e] := by rw [← hz, ← hsp]; exact hy
          have hnt : ¬ (93 : UInt8) ∈ t := by
            intro hm
            rw [← ht] at hm
            have := takeWhile_mem hm
            revert this
            decide
          have he : e = 93 := by
            rcases List.mem_append.1 h93 with hm | hm
            · exact absurd hm hnt
            · exact (List.mem_singleton.1 hm).symm
          subst he
          constructor
          · intro hc; cases s <;> simp at hc
          · intro hc; simp at hc
        | e :: g :: z => exact Iff.rfl
      by_cases hc : (91 :: 58 :: y : List UInt8).take 2 = [91, 58] ∧ t ≠ [] ∧ (y.drop t.length).take 2 = [58, 93]
      · rw [if_pos hc, if_pos ⟨hc.1, hc.2.1, e4.2 hc.2.2⟩]
      · rw [if_neg hc, if_neg (fun h => hc ⟨h.1, h.2.1, e4.1 h.2.2⟩)]
    · unfold className
      have hn : ∀ z : List UInt8, ¬ (c :: d :: z).take 2 = [91, 58] := fun z hz => hcd (by simpa using hz)
      rw [if_neg (fun h => hn (y ++ s) h.1), if_neg (fun h => hn y h.1)]
theorem item_on (c : UInt8) (r s : List UInt8) : itemD false (c :: r ++ s) = (c, r ++ s) ∧ itemD false (c :: r) = (c, r) := by
  constructor
  · match r, s with
    | [], [] => rfl
    | [], d :: s => simp [itemD]
    | d :: r, s => simp [itemD]
  · match r with
    | [] => rfl
    | d :: r => simp [itemD]
theorem range_on {r : List UInt8} (s : List UInt8) (h : 93 ∈ r) : rangeD (r ++ s) = rangeD r := by
  match r, h with
  | [d], h =>
    have : d = 93 := (List.mem_singleton.1 h).symm
    subst this
    cases s <;> rfl
  | d :: e :: z, _ => rfl
theorem part_mem {c : UInt8} {r : List UInt8} {S : BSet} {k : Bool} (h : 93 ∈ (partD false (c :: r) S k).rest) : 93 ∈ c :: r := by
  unfold partD at h
  split at h
  · split at h <;> exact List.mem_of_mem_drop h
  · split at h
    · simp only [(item_on c r []).2] at h
      match r with
      | [] => simp [itemD] at h
      | d :: r =>
        simp only [List.tail_cons] at h
        match r with
        | [] => simp [itemD] at h
        | e :: r => rw [(item_on e r []).2] at h; simp at h; simp [h]
    · simp only [(item_on c r []).2] at h
      exact List.mem_cons_of_mem _ h
theorem part_on {x : List UInt8} (s : List UInt8) (S : BSet) (k : Bool) (hx : x ≠ []) (h : 93 ∈ (partD false x S k).rest) : partD false (x ++ s) S k = ⟨(partD false x S k).set, (partD false x S k).known, (partD false x S k).rest ++ s⟩ := by
  match x, hx with
  | c :: r, _ =>
    have hsub : 93 ∈ c :: r := part_mem h
    unfold partD at h ⊢
    rw [className_on s hsub]
    cases hc : className (c :: r) with
    | some n =>
      have hl := className_len hc
      rw [hc] at h
      simp only
      cases hd : classD n with
      | some f => simp only; rw [List.drop_append_of_le_length (by omega)]
      | none => simp only; rw [List.drop_append_of_le_length (by omega)]
    | none =>
      rw [hc] at h
      simp only [(item_on c r s).1, (item_on c r s).2] at h ⊢
      by_cases hr : rangeD r = true
      · rw [if_pos hr] at h
        match r, hr with
        | d :: e :: z, hr =>
          simp only [List.tail_cons, (item_on e z s).2] at h ⊢
          have h2 : rangeD (d :: e :: z ++ s) = true := hr
          have e1 : (d :: e :: z ++ s).tail = e :: z ++ s := rfl
          rw [if_pos h2, if_pos hr, e1, (item_on e z s).1]
      · rw [if_neg hr] at h
        rw [range_on s h, if_neg hr, if_neg hr]
theorem brD_mem : ∀ (n : Nat) (first : Bool) (l : List UInt8) (S : BSet) (k : Bool) (p : PartD), brD false n first l S k = some p → 93 ∈ l := by
  intro n
  induction n with
  | zero => intro first l S k p h; rw [brD] at h; cases h
  | succ n ih =>
    intro first l S k p h
    match l, h with
    | [], h => rw [brD] at h; cases h
    | c :: r, h =>
      rw [brD] at h
      by_cases hc : c = 93 ∧ first = false
      · simp [hc.1]
      · rw [if_neg hc] at h
        exact part_mem (ih _ _ _ _ _ h)
theorem brD_on (s : List UInt8) : ∀ (n m : Nat) (first : Bool) (l : List UInt8) (S : BSet) (k : Bool) (p : PartD), brD false n first l S k = some p → n ≤ m → brD false m first (l ++ s) S k = some ⟨p.set, p.known, p.rest ++ s⟩ := by
  intro n
  induction n with
  | zero => intro m first l S k p h; rw [brD] at h; cases h
  | succ n ih =>
    intro m first l S k p h hm
    obtain ⟨m', rfl⟩ : ∃ m', m = m' + 1 := ⟨m - 1, by omega⟩
    match l, h with
    | c :: r, h =>
      rw [brD] at h
      rw [List.cons_append, brD]
      by_cases hc : c = 93 ∧ first = false
      · rw [if_pos hc] at h ⊢
        cases h
        rfl
      · rw [if_neg hc] at h ⊢
        have hmem := brD_mem _ _ _ _ _ _ h
        have hp := part_on s S k (x := c :: r) (by simp) hmem
        rw [List.cons_append] at hp
        rw [hp]
        exact ih m' _ _ _ _ _ h (by omega)
theorem bracket_on {l : List UInt8} (s : List UInt8) {p : PartD} (h : bracketD false [94] l = some p) : bracketD false [94] (l ++ s) = some ⟨p.set, p.known, p.rest ++ s⟩ := by
  match l, h with
  | c :: r, h =>
    unfold bracketD at h
    rw [List.cons_append]
    unfold bracketD
    simp only at h ⊢
    by_cases hc : c = 91
    · rw [if_pos hc] at h ⊢
      match r, h with
      | [], h => simp [turnedD, brD] at h
      | d :: r, h =>
        have ht : turnedD [94] (d :: r ++ s) = turnedD [94] (d :: r) := rfl
        rw [ht]
        by_cases hd : turnedD [94] (d :: r) = true
        · rw [if_pos hd] at h ⊢
          cases hb : brD false ((d :: r).tail.length + 1) true (d :: r).tail (fun _ => false) true with
          | none => rw [hb] at h; cases h
          | some q =>
            rw [hb] at h
            cases h
            have h1 : (d :: r ++ s).tail = (d :: r).tail ++ s := rfl
            rw [h1, brD_on s _ _ _ _ _ _ _ hb (by rw [List.length_append]; omega)]
            rfl
        · rw [if_neg hd] at h ⊢
          exact brD_on s _ _ _ _ _ _ _ h (by rw [List.length_append]; omega)
    · rw [if_neg hc] at h; cases h
end Go.Proofs.YtdlljlmgoiobpaaGreatDoor
/- What is read by itself is read the same within a longer text: up to branches. -/
namespace Go.Proofs.YtdlljlmgoiobpaaGreatDoor
/-- A text stands at q of another, and behind it nothing, a bar or a closing bracket. -/
structure On (a L : List UInt8) (q : Nat) : Prop where
  cut : ∃ pre suf, L = pre ++ (a ++ suf) ∧ pre.length = q
  stop : L[q + a.length]? = none ∨ L[q + a.length]? = some 124 ∨ L[q + a.length]? = some 41
def shR {α : Type} (q : Nat) : Res α → Res α
  | .bad e => .bad e
  | .ok x j => .ok x (q + j)
theorem On.get {a L : List UInt8} {q i : Nat} (h : On a L q) (hi : i < a.length) : L[q + i]? = a[i]? := by
  obtain ⟨pre, suf, rfl, rfl⟩ := h.cut
  rw [List.getElem?_append_right (by omega), Nat.add_sub_cancel_left, List.getElem?_append_left hi]
theorem On.len {a L : List UInt8} {q : Nat} (h : On a L q) : q + a.length ≤ L.length := by
  obtain ⟨pre, suf, rfl, rfl⟩ := h.cut
  simp [List.length_append]
theorem On.is {a L : List UInt8} {q i : Nat} (h : On a L q) (hi : i ≤ a.length) {c : UInt8} (h1 : c ≠ 124) (h2 : c ≠ 41) : L[q + i]? = some c ↔ a[i]? = some c := by
  by_cases hl : i < a.length
  · rw [h.get hl]
  · obtain rfl : i = a.length := by omega
    rw [List.getElem?_eq_none (Nat.le_refl _)]
    constructor
    · intro hc
      rcases h.stop with hs | hs | hs <;> rw [hs] at hc
      · cases hc
      · cases hc; exact absurd rfl h1
      · cases hc; exact absurd rfl h2
    · intro hc; cases hc
theorem On.drop {a L : List UInt8} {q i k : Nat} (h : On a L q) (hk : i + k ≤ a.length) : (L.drop (q + i)).take k = (a.drop i).take k := by
  obtain ⟨pre, suf, rfl, rfl⟩ := h.cut
  rw [← List.drop_drop, List.drop_left, List.drop_append_of_le_length (by omega), List.take_append_of_le_length (by rw [List.length_drop]; omega)]
theorem On.dig {a L : List UInt8} {q i : Nat} (h : On a L q) (hi : i ≤ a.length) : digB L[q + i]? = digB a[i]? := by
  by_cases hl : i < a.length
  · rw [h.get hl]
  · obtain rfl : i = a.length := by omega
    rw [List.getElem?_eq_none (Nat.le_refl _)]
    rcases h.stop with hs | hs | hs <;> rw [hs] <;> rfl
theorem dig_lt {a : List UInt8} {i : Nat} (h : digB a[i]? = true) : i < a.length := by
  rcases Nat.lt_or_ge i a.length with hl | hl
  · exact hl
  · rw [List.getElem?_eq_none hl] at h; cases h
theorem on_digs {a L : List UInt8} {q i : Nat} (h : On a L q) (hi : i ≤ a.length) : digs L (q + i) = digs a i ∧ i + digs a i ≤ a.length := by
  unfold digs
  rw [h.dig hi]
  by_cases h0 : digB a[i]? = true
  · have l0 := dig_lt h0
    rw [if_pos h0, if_pos h0, Nat.add_assoc, h.dig (i := i + 1) (by omega)]
    by_cases h1 : digB a[i + 1]? = true
    · have l1 := dig_lt h1
      rw [if_pos h1, if_pos h1, Nat.add_assoc, h.dig (i := i + 2) (by omega)]
      by_cases h2 : digB a[i + 2]? = true
      · have l2 := dig_lt h2
        rw [if_pos h2]
        exact ⟨rfl, by omega⟩
      · rw [if_neg h2]
        exact ⟨rfl, by omega⟩
    · rw [if_neg h1, if_neg h1]
      exact ⟨rfl, by omega⟩
  · rw [if_neg h0, if_neg h0]
    exact ⟨rfl, by omega⟩
theorem on_num {a L : List UInt8} {q i : Nat} (h : On a L q) (hi : i ≤ a.length) (n : Int) : numD L (q + i) n = shR q (numD a i n) ∧ ∀ m j, numD a i n = .ok m j → j ≤ a.length := by
  obtain ⟨e1, e2⟩ := on_digs h hi
  have e3 : numV L (q + i) = numV a i := by
    unfold numV
    rw [e1, h.drop e2]
  unfold numD
  rw [e1, e3]
  by_cases h0 : digs a i = 0
  · rw [if_pos h0, if_pos h0]
    exact ⟨rfl, fun m j hm => by cases hm⟩
  · rw [if_neg h0, if_neg h0]
    by_cases h1 : 255 < numV a i ∨ numV a i < n
    · rw [if_pos h1, if_pos h1]
      exact ⟨rfl, fun m j hm => by cases hm⟩
    · rw [if_neg h1, if_neg h1]
      exact ⟨by show Res.ok _ _ = Res.ok _ _; rw [Nat.add_assoc], fun m j hm => by cases hm; exact e2⟩
theorem on_count {a L : List UInt8} {q i : Nat} (h : On a L q) (hi : i ≤ a.length) : countD L (q + i) = shR q (countD a i) := by
  unfold countD
  obtain ⟨e1, e2⟩ := on_num h hi 0
  rw [e1]
  cases hn : numD a i 0 with
  | bad e => rfl
  | ok n j =>
    have hj := e2 n j hn
    simp only [shR]
    by_cases h44 : a[j]? = some 44
    · have hlt := (List.getElem?_eq_some_iff.1 h44).1
      rw [if_pos h44, if_pos ((h.is hj (by decide) (by decide)).2 h44), Nat.add_assoc]
      have h125 := h.is (i := j + 1) (by omega) (c := 125) (by decide) (by decide)
      by_cases h5 : a[j + 1]? = some 125
      · rw [if_pos h5, if_pos (h125.2 h5)]
        rfl
      · rw [if_neg h5, if_neg (fun hc => h5 (h125.1 hc))]
        obtain ⟨f1, f2⟩ := on_num h (i := j + 1) (by omega) n
        rw [f1]
        cases hm : numD a (j + 1) n with
        | bad e => rfl
        | ok m k =>
          have hk := f2 m k hm
          simp only [shR]
          have hk5 := h.is hk (c := 125) (by decide) (by decide)
          by_cases h6 : a[k]? = some 125
          · rw [if_pos h6, if_pos (hk5.2 h6)]
            rfl
          · rw [if_neg h6, if_neg (fun hc => h6 (hk5.1 hc))]
    · rw [if_neg h44, if_neg (fun hc => h44 ((h.is hj (by decide) (by decide)).1 hc))]
      have h125 := h.is hj (c := 125) (by decide) (by decide)
      by_cases h5 : a[j]? = some 125
      · rw [if_pos h5, if_pos (h125.2 h5)]
        rfl
      · rw [if_neg h5, if_neg (fun hc => h5 (h125.1 hc))]
theorem on_rep {a L : List UInt8} {q i : Nat} (h : On a L q) (hi : i ≤ a.length) : repD L (q + i) = (repD a i).map (shR q) := by
  unfold repD
  have k1 := h.is hi (c := 42) (by decide) (by decide)
  have k2 := h.is hi (c := 43) (by decide) (by decide)
  have k3 := h.is hi (c := 63) (by decide) (by decide)
  have k4 := h.is hi (c := 123) (by decide) (by decide)
  by_cases h1 : a[i]? = some 42
  · rw [if_pos h1, if_pos (k1.2 h1)]; rfl
  rw [if_neg h1, if_neg (fun hc => h1 (k1.1 hc))]
  by_cases h2 : a[i]? = some 43
  · rw [if_pos h2, if_pos (k2.2 h2)]; rfl
  rw [if_neg h2, if_neg (fun hc => h2 (k2.1 hc))]
  by_cases h3 : a[i]? = some 63
  · rw [if_pos h3, if_pos (k3.2 h3)]; rfl
  rw [if_neg h3, if_neg (fun hc => h3 (k3.1 hc))]
  by_cases h4 : a[i]? = some 123
  · have hlt := (List.getElem?_eq_some_iff.1 h4).1
    rw [if_pos h4, if_pos (k4.2 h4), Nat.add_assoc, on_count h (by omega)]; rfl
  rw [if_neg h4, if_neg (fun hc => h4 (k4.1 hc))]
  rfl
end Go.Proofs.YtdlljlmgoiobpaaGreatDoor
/- What is read by itself is read the same within a longer text, as deep as one may go. -/
namespace Go.Proofs.YtdlljlmgoiobpaaGreatDoor
theorem on_reps {a L : List UInt8} {q : Nat} (h : On a L q) : ∀ (k K : Nat) (p : PtD) (i : Nat), i ≤ a.length → a.length ≤ i + k → a.length ≤ i + K → repsD L K p (q + i) = shR q (repsD a k p i) := by
  intro k
  induction k with
  | zero =>
    intro K p i hi hk hK
    obtain rfl : i = a.length := by omega
    have hn : repD a a.length = none := by
      unfold repD
      rw [List.getElem?_eq_none (Nat.le_refl _)]
      rfl
    cases K with
    | zero => rfl
    | succ K =>
      rw [repsD, repsD, on_rep h (Nat.le_refl _), hn]
      rfl
  | succ k ih =>
    intro K p i hi hk hK
    cases K with
    | zero =>
      obtain rfl : i = a.length := by omega
      have hn : repD a a.length = none := by
        unfold repD
        rw [List.getElem?_eq_none (Nat.le_refl _)]
        rfl
      rw [repsD, repsD, hn]
      rfl
    | succ K =>
      rw [repsD, repsD, on_rep h hi]
      cases hr : repD a i with
      | none => rfl
      | some o =>
        cases o with
        | bad e => rfl
        | ok t j =>
          obtain ⟨g1, g2, _⟩ := repD_goes hr
          exact ih K _ j g2 (by omega) (by omega)
/-- It reads the same at the shifted place, or it is too deep there. -/
def Fit (q : Nat) (x y : Res PtD) : Prop := ∀ p j, x = .ok p j → y = .ok p (q + j) ∨ y = .bad 5
theorem on_brk {a L : List UInt8} {q i : Nat} (h : On a L q) (hi : i < a.length) {t : ByteArray} {j : Nat} (hb : brkD a (i + 1) = .ok t j) : brkD L (q + i + 1) = .ok t (q + j) := by
  unfold brkD at hb ⊢
  rw [Nat.add_sub_cancel] at hb ⊢
  obtain ⟨pre, suf, hL, hq⟩ := h.cut
  have hd : L.drop (q + i) = a.drop i ++ suf := by
    rw [hL, ← hq, ← List.drop_drop, List.drop_left, List.drop_append_of_le_length (by omega)]
  rw [hd]
  unfold plainBrD at hb ⊢
  cases hx : bracketD false [94] (a.drop i) with
  | none => rw [hx] at hb; cases hb
  | some p =>
    rw [hx] at hb
    rw [bracket_on suf hx]
    simp only at hb ⊢
    by_cases hk : p.known = true
    · rw [if_pos hk] at hb ⊢
      simp only at hb ⊢
      cases hb
      congr 1
      rw [List.length_append, List.length_append]
      omega
    · rw [if_neg hk] at hb; cases hb
theorem on_atom {a L : List UInt8} {q f f' : Nat} {ex ex' : Nat → Res PtD} (h : On a L q) (hx : f ≠ 0 → f' ≠ 0 → ∀ i p j, i ≤ a.length → ex i = .ok p j → j < a.length → ex' (q + i) = .ok p (q + j) ∨ ex' (q + i) = .bad 5) {i : Nat} (_hi : i ≤ a.length) : Fit q (atomD f ex a i) (atomD f' ex' L (q + i)) := by
  intro p j ho
  have hlt : i < a.length := by
    rcases Nat.lt_or_ge i a.length with hl | hl
    · exact hl
    · unfold atomD litD at ho
      rw [List.getElem?_eq_none hl] at ho
      simp at ho
  unfold atomD at ho ⊢
  rw [h.get hlt]
  by_cases h1 : a[i]? = some 40
  · rw [if_pos h1] at ho ⊢
    unfold grpD at ho ⊢
    by_cases hf : f = 0
    · rw [if_pos hf] at ho; cases ho
    · rw [if_neg hf] at ho
      by_cases hf' : f' = 0
      · rw [if_pos hf']; exact .inr rfl
      · rw [if_neg hf']
        unfold shutD at ho ⊢
        cases hex : ex (i + 1) with
        | bad e => rw [hex] at ho; cases ho
        | ok r k =>
          rw [hex] at ho
          simp only at ho
          by_cases hk : a[k]? = some 41
          · rw [if_pos hk] at ho
            cases ho
            have hkl := (List.getElem?_eq_some_iff.1 hk).1
            rcases hx hf hf' (i + 1) _ k (by omega) hex hkl with he | he
            · rw [Nat.add_assoc, he]
              simp only
              rw [if_pos (by rw [h.get hkl]; exact hk)]
              exact .inl rfl
            · rw [Nat.add_assoc, he]; exact .inr rfl
          · rw [if_neg hk] at ho; cases ho
  rw [if_neg h1] at ho ⊢
  by_cases h2 : a[i]? = some 46
  · rw [if_pos h2] at ho ⊢
    cases ho
    exact .inl rfl
  rw [if_neg h2] at ho ⊢
  by_cases h3 : a[i]? = some 91
  · rw [if_pos h3] at ho ⊢
    left
    cases hb : brkD a (i + 1) with
    | bad e => rw [hb] at ho; cases ho
    | ok t k =>
      rw [hb] at ho
      cases ho
      rw [on_brk h hlt hb]
      rfl
  rw [if_neg h3] at ho ⊢
  by_cases h4 : a[i]? = some 92
  · rw [if_pos h4] at ho ⊢
    left
    unfold escSD at ho ⊢
    cases hg : a[i + 1]? with
    | none => rw [hg] at ho; cases ho
    | some c =>
      have hgl := (List.getElem?_eq_some_iff.1 hg).1
      rw [Nat.add_assoc, h.get hgl, hg]
      rw [hg] at ho
      simp only at ho ⊢
      by_cases hs : signsL.contains c = true
      · rw [if_pos hs] at ho ⊢
        cases ho
        rfl
      · rw [if_neg hs] at ho; cases ho
  rw [if_neg h4] at ho ⊢
  left
  unfold litD at ho ⊢
  rw [h.get hlt]
  cases hg : a[i]? with
  | none => rw [hg] at ho; cases ho
  | some c =>
    rw [hg] at ho
    simp only at ho ⊢
    by_cases hs : noBytesL.contains c = true
    · rw [if_pos hs] at ho; cases ho
    · rw [if_neg hs] at ho ⊢
      cases ho
      rfl
theorem on_piece {a L : List UInt8} {q f f' : Nat} {ex ex' : Nat → Res PtD} (h : On a L q) (hg : f ≠ 0 → GoesE a ex) (hx : f ≠ 0 → f' ≠ 0 → ∀ i p j, i ≤ a.length → ex i = .ok p j → j < a.length → ex' (q + i) = .ok p (q + j) ∨ ex' (q + i) = .bad 5) {i : Nat} (hi : i ≤ a.length) : Fit q (epieceD f ex a i) (epieceD f' ex' L (q + i)) := by
  intro p j ho
  unfold epieceD at ho ⊢
  cases ha : atomD f ex a i with
  | bad e => rw [ha] at ho; cases ho
  | ok r k =>
    rw [ha] at ho
    simp only at ho
    obtain ⟨g1, g2, _⟩ := goes_atom hg i r k hi ha
    rcases on_atom h hx hi r k ha with he | he
    · rw [he]
      left
      have hl := h.len
      simp only
      rw [on_reps h a.length L.length r k g2 (by omega) (by omega)]
      cases hr : repsD a a.length r k with
      | bad e => rw [hr] at ho; cases ho
      | ok r2 k2 =>
        rw [hr] at ho
        unfold fewD at ho ⊢
        simp only [shR] at ho ⊢
        by_cases h1 : 1000 < r2.atoms
        · rw [if_pos h1] at ho; cases ho
        · rw [if_neg h1] at ho ⊢
          cases ho
          rfl
    · rw [he]; exact .inr rfl
theorem on_more {a L : List UInt8} {q i : Nat} (h : On a L q) (hi : i ≤ a.length) : moreB L (q + i) = moreB a i := by
  unfold moreB
  by_cases hl : i < a.length
  · rw [h.get hl]
  · obtain rfl : i = a.length := by omega
    rw [List.getElem?_eq_none (Nat.le_refl _)]
    rcases h.stop with hs | hs | hs <;> rw [hs] <;> rfl
theorem on_pieces {a L : List UInt8} {q : Nat} {pc pc' : Nat → Res PtD} (h : On a L q) (hg : GoesE a pc) (hx : ∀ i, i ≤ a.length → Fit q (pc i) (pc' (q + i))) : ∀ (k K : Nat) (ps : List PtD) (i : Nat), i ≤ a.length → a.length ≤ i + k → a.length ≤ i + K → ∀ qs j, piecesD pc a k ps i = .ok qs j → piecesD pc' L K ps (q + i) = .ok qs (q + j) ∨ piecesD pc' L K ps (q + i) = .bad 5 := by
  intro k
  have hend : moreB a a.length = false := by
    unfold moreB
    rw [List.getElem?_eq_none (Nat.le_refl _)]
  induction k with
  | zero =>
    intro K ps i hi hk hK qs j ho
    obtain rfl : i = a.length := by omega
    rw [piecesD] at ho
    cases ho
    left
    cases K with
    | zero => rfl
    | succ K => rw [piecesD, on_more h hi, hend]; rfl
  | succ k ih =>
    intro K ps i hi hk hK qs j ho
    rw [piecesD] at ho
    by_cases hm : moreB a i = true
    · rw [if_pos hm] at ho
      have hlt : i < a.length := by
        rcases Nat.lt_or_ge i a.length with hl | hl
        · exact hl
        · obtain rfl : i = a.length := by omega
          rw [hend] at hm; cases hm
      obtain ⟨K', rfl⟩ : ∃ K', K = K' + 1 := ⟨K - 1, by omega⟩
      rw [piecesD, on_more h hi, if_pos hm]
      cases hp : pc i with
      | bad e => rw [hp] at ho; cases ho
      | ok r m =>
        rw [hp] at ho
        obtain ⟨g1, g2, _⟩ := hg i r m hi hp
        rcases hx i hi r m hp with he | he
        · rw [he]
          exact ih K' _ m g2 (by omega) (by omega) qs j ho
        · rw [he]; exact .inr rfl
    · rw [if_neg hm] at ho
      cases ho
      left
      cases K with
      | zero => rfl
      | succ K => rw [piecesD, on_more h hi, if_neg hm]
theorem on_branch {a L : List UInt8} {q : Nat} {pc pc' : Nat → Res PtD} (h : On a L q) (hg : GoesE a pc) (hx : ∀ i, i ≤ a.length → Fit q (pc i) (pc' (q + i))) {i : Nat} (hi : i ≤ a.length) : Fit q (branchD pc a i) (branchD pc' L (q + i)) := by
  intro p j ho
  unfold branchD at ho ⊢
  cases hp : pc i with
  | bad e => rw [hp] at ho; cases ho
  | ok r m =>
    rw [hp] at ho
    simp only at ho
    obtain ⟨g1, g2, _⟩ := hg i r m hi hp
    rcases hx i hi r m hp with he | he
    · rw [he]
      simp only
      have hl := h.len
      cases hs : piecesD pc a a.length [r] m with
      | bad e => rw [hs] at ho; cases ho
      | ok qs k =>
        rw [hs] at ho
        cases ho
        rcases on_pieces h hg hx a.length L.length [r] m g2 (by omega) (by omega) qs _ hs with hz | hz
        · rw [hz]; exact .inl rfl
        · rw [hz]; exact .inr rfl
    · rw [he]; exact .inr rfl
theorem on_branches {a L : List UInt8} {q : Nat} {br br' : Nat → Res PtD} (h : On a L q) (hg : GoesE a br) (hx : ∀ i, i ≤ a.length → Fit q (br i) (br' (q + i))) (zs : List PtD) : ∀ (k K : Nat) (ps : List PtD) (i : Nat), i ≤ a.length → a.length ≤ i + k → L.length ≤ q + i + K → ∀ qs j, branchesD br a k ps i = .ok qs j → j ≤ a.length ∧ a[j]? ≠ some 124 ∧ (branchesD br' L K (zs ++ ps) (q + i) = .bad 5 ∨ ∃ K', L.length ≤ q + j + K' ∧ branchesD br' L K (zs ++ ps) (q + i) = branchesD br' L K' (zs ++ qs) (q + j)) := by
  intro k
  have hend : a[a.length]? = none := List.getElem?_eq_none (Nat.le_refl _)
  induction k with
  | zero =>
    intro K ps i hi hk hK qs j ho
    obtain rfl : i = a.length := by omega
    rw [branchesD] at ho
    cases ho
    exact ⟨hi, by rw [hend]; simp, .inr ⟨K, hK, rfl⟩⟩
  | succ k ih =>
    intro K ps i hi hk hK qs j ho
    rw [branchesD] at ho
    by_cases hm : a[i]? = some 124
    · rw [if_pos hm] at ho
      have hlt := (List.getElem?_eq_some_iff.1 hm).1
      have hl := h.len
      obtain ⟨K', rfl⟩ : ∃ K', K = K' + 1 := ⟨K - 1, by omega⟩
      rw [branchesD, if_pos (by rw [h.get hlt]; exact hm)]
      cases hp : br (i + 1) with
      | bad e => rw [hp] at ho; cases ho
      | ok r m =>
        rw [hp] at ho
        obtain ⟨g1, g2, _⟩ := hg (i + 1) r m (by omega) hp
        obtain ⟨b1, b2, b3⟩ := ih K' (ps ++ [r]) m g2 (by omega) (by omega) qs j ho
        refine ⟨b1, b2, ?_⟩
        rcases hx (i + 1) (by omega) r m hp with he | he
        · rw [Nat.add_assoc, he]
          simp only
          rw [List.append_assoc]
          exact b3
        · rw [Nat.add_assoc, he]; exact .inl rfl
    · rw [if_neg hm] at ho
      cases ho
      exact ⟨hi, hm, .inr ⟨K, hK, rfl⟩⟩
theorem branches_ne {l : List UInt8} {br : Nat → Res PtD} : ∀ {k : Nat} {r : PtD} {ps : List PtD} {i j : Nat} {qs : List PtD}, branchesD br l k (r :: ps) i = .ok qs j → qs ≠ [] := by
  intro k
  induction k with
  | zero => intro r ps i j qs h; rw [branchesD] at h; cases h; simp
  | succ k ih =>
    intro r ps i j qs h
    rw [branchesD] at h
    split at h
    · split at h
      · cases h
      · exact ih h
    · cases h; simp
/-- The branches of an expression, and what comes of them within a longer text. -/
theorem on_exprOf {a L : List UInt8} {q : Nat} {br br' : Nat → Res PtD} (h : On a L q) (hg : GoesE a br) (hx : ∀ i, i ≤ a.length → Fit q (br i) (br' (q + i))) {i : Nat} (hi : i ≤ a.length) {p : PtD} {j : Nat} (ho : exprOf br a i = .ok p j) : j ≤ a.length ∧ a[j]? ≠ some 124 ∧ ∃ qs, qs ≠ [] ∧ p = joinD 4 qs ∧
    (∀ (zs : List PtD) (K : Nat), L.length ≤ q + i + K → (br' (q + i) = .bad 5 ∨ ∃ r m, br' (q + i) = .ok r m ∧ (q + i < m) ∧ m ≤ L.length ∧ (branchesD br' L K (zs ++ [r]) m = .bad 5 ∨ ∃ K', L.length ≤ q + j + K' ∧ branchesD br' L K (zs ++ [r]) m = branchesD br' L K' (zs ++ qs) (q + j)))) := by
  unfold exprOf at ho
  cases hp : br i with
  | bad e => rw [hp] at ho; cases ho
  | ok r m =>
    rw [hp] at ho
    simp only at ho
    obtain ⟨g1, g2, _⟩ := hg i r m hi hp
    have hl := h.len
    cases hs : branchesD br a a.length [r] m with
    | bad e => rw [hs] at ho; cases ho
    | ok qs k =>
      rw [hs] at ho
      cases ho
      obtain ⟨b1, b2, _⟩ := on_branches h hg hx [] a.length L.length [r] m g2 (by omega) (by omega) qs _ hs
      refine ⟨b1, b2, qs, ?_, rfl, ?_⟩
      · exact branches_ne hs
      · intro zs K hK
        rcases hx i hi r m hp with he | he
        · right
          obtain ⟨_, _, b3⟩ := on_branches h hg hx zs a.length K [r] m g2 (by omega) (by omega) qs _ hs
          exact ⟨r, q + m, he, by omega, by omega, b3⟩
        · exact .inl he
end Go.Proofs.YtdlljlmgoiobpaaGreatDoor
/- Two expressions with a bar between them, and two in brackets, one behind the other. -/
namespace Go.Proofs.YtdlljlmgoiobpaaGreatDoor
def exAt (L : List UInt8) : Nat → Nat → Res PtD
  | 0 => fun _ => .bad 5
  | f + 1 => eexprD L f
def brOf (L : List UInt8) (f : Nat) : Nat → Res PtD := branchD (epieceD f (exAt L f) L) L
theorem expr_br (L : List UInt8) (f : Nat) : eexprD L f = exprOf (brOf L f) L := by
  cases f <;> rfl
theorem goes_exAt (L : List UInt8) (f : Nat) (hf : f ≠ 0) : GoesE L (exAt L f) := by
  cases f with
  | zero => exact absurd rfl hf
  | succ f => exact goes_expr L f
theorem goes_br (L : List UInt8) (f : Nat) : GoesE L (brOf L f) := goes_branch (goes_piece (goes_exAt L f))
theorem branches_stop {l : List UInt8} {br : Nat → Res PtD} {K i : Nat} {ps : List PtD} (h : l[i]? ≠ some 124) : branchesD br l K ps i = .ok ps i := by
  cases K with
  | zero => rfl
  | succ K => rw [branchesD, if_neg h]
theorem on_br {a L : List UInt8} {q : Nat} (h : On a L q) : ∀ (f f' i : Nat), i ≤ a.length → Fit q (brOf a f i) (brOf L f' (q + i)) := by
  intro f
  induction f with
  | zero =>
    intro f' i hi
    exact on_branch h (goes_piece (goes_exAt a 0)) (fun i hi => on_piece h (goes_exAt a 0) (fun h0 => absurd rfl h0) hi) hi
  | succ f ih =>
    intro f' i hi
    refine on_branch h (goes_piece (goes_exAt a (f + 1))) (fun i hi => on_piece h (goes_exAt a (f + 1)) ?_ hi) hi
    intro _ hf' i p j hi ho hj
    obtain ⟨g, rfl⟩ : ∃ g, f' = g + 1 := ⟨f' - 1, by omega⟩
    show eexprD L g (q + i) = _ ∨ eexprD L g (q + i) = _
    have ho : eexprD a f i = .ok p j := ho
    rw [expr_br] at ho ⊢
    obtain ⟨_, h124, qs, hne, rfl, hall⟩ := on_exprOf h (goes_br a f) (fun i hi => ih g i hi) hi ho
    have hst : L[q + j]? ≠ some 124 := by rw [h.get hj]; exact h124
    unfold exprOf
    rcases hall [] L.length (by omega) with hb | ⟨r, m, hb, _, _, hz⟩
    · rw [hb]; exact .inr rfl
    · rw [hb]
      simp only [List.nil_append] at hz ⊢
      rcases hz with hz | ⟨K', _, hz⟩
      · rw [hz]; exact .inr rfl
      · rw [hz, branches_stop hst]; exact .inl rfl
theorem read_ok {l : List UInt8} {p : PtD} {j : Nat} (h : readD l = .ok p j) : l.length ≤ 200 ∧ j = l.length ∧ exprOf (brOf l 20) l 0 = .ok p l.length := by
  unfold readD at h
  split at h
  · cases h
  · rename_i hl
    rw [expr_br] at h
    have hg := goes_exprOf (goes_br l 20)
    cases hx : exprOf (brOf l 20) l 0 with
    | bad e => rw [hx] at h; cases h
    | ok r k =>
      obtain ⟨_, h2, _⟩ := hg 0 r k (by omega) hx
      rw [hx] at h
      unfold wholeD at h
      simp only at h
      split at h
      · cases h
      · cases h
        obtain rfl : j = l.length := by omega
        exact ⟨by omega, rfl, rfl⟩
theorem join_choice {ps : List PtD} (s : List UInt8) (hne : ps ≠ []) : InE (joinD 4 ps).e s ↔ ∃ p ∈ ps, InE p.e s := by
  match ps, hne with
  | [p], _ => simp [joinD]
  | p :: r :: ps, _ =>
    constructor
    · intro h
      have h : InE (.mk 4 [] ((p :: r :: ps).map (·.e))) s := h
      cases h with
      | choice st ks k s hk h =>
        obtain ⟨x, hx, rfl⟩ := List.mem_map.1 hk
        exact ⟨x, hx, h⟩
    · rintro ⟨x, hx, h⟩
      exact InE.choice [] _ x.e s (List.mem_map.2 ⟨x, hx, rfl⟩) h
/-- With a bar between them: what the one or the other matches. -/
theorem read_either {a b : List UInt8} {pa pb pe : PtD} {ja jb je : Nat} (ha : readD a = .ok pa ja) (hb : readD b = .ok pb jb) (he : readD (a ++ 124 :: b) = .ok pe je) (s : List UInt8) : InE pe.e s ↔ InE pa.e s ∨ InE pb.e s := by
  obtain ⟨_, _, xa⟩ := read_ok ha
  obtain ⟨_, _, xb⟩ := read_ok hb
  obtain ⟨_, _, xe⟩ := read_ok he
  obtain ⟨L, hL⟩ : ∃ L, a ++ 124 :: b = L := ⟨_, rfl⟩
  rw [hL] at xe
  have hlen : L.length = a.length + 1 + b.length := by rw [← hL]; simp; omega
  have h124 : L[a.length]? = some 124 := by rw [← hL, List.getElem?_append_right (Nat.le_refl _)]; simp
  have hn : L[L.length]? = none := List.getElem?_eq_none (Nat.le_refl _)
  have oa : On a L 0 := ⟨⟨[], 124 :: b, by rw [List.nil_append, hL], rfl⟩, .inr (.inl (by rw [Nat.zero_add]; exact h124))⟩
  have ob : On b L (a.length + 1) := ⟨⟨a ++ [124], [], by rw [List.append_nil, List.append_assoc]; exact hL.symm, by simp⟩, .inl (by rw [← hlen]; exact hn)⟩
  obtain ⟨_, _, xs, ane, rfl, hala⟩ := on_exprOf oa (goes_br a 20) (fun i hi => on_br oa 20 20 i hi) (Nat.zero_le _) xa
  obtain ⟨_, _, ys, bne, rfl, halb⟩ := on_exprOf ob (goes_br b 20) (fun i hi => on_br ob 20 20 i hi) (Nat.zero_le _) xb
  unfold exprOf at xe
  rcases hala [] L.length (by omega) with hz | ⟨r, m, hz, _, _, hz2⟩
  · rw [Nat.zero_add] at hz; rw [hz] at xe; cases xe
  · rw [Nat.zero_add] at hz
    rw [hz] at xe
    simp only [List.nil_append] at xe hz2
    rcases hz2 with hz2 | ⟨K, hK, hz2⟩
    · rw [hz2] at xe; cases xe
    · rw [hz2, Nat.zero_add] at xe
      obtain ⟨K', rfl⟩ : ∃ K', K = K' + 1 := ⟨K - 1, by omega⟩
      rw [branchesD, if_pos h124] at xe
      rcases halb xs K' (by omega) with hw | ⟨r2, m2, hw, _, _, hw2⟩
      · rw [Nat.add_zero] at hw; rw [hw] at xe; cases xe
      · rw [Nat.add_zero] at hw
        rw [hw] at xe
        simp only at xe
        rcases hw2 with hw2 | ⟨K2, hK2, hw2⟩
        · rw [hw2] at xe; cases xe
        · rw [hw2, ← hlen, branches_stop (by rw [hn]; simp)] at xe
          cases xe
          rw [join_choice s (by simp [ane]), join_choice s ane, join_choice s bne]
          constructor
          · rintro ⟨p, hp, h⟩
            rcases List.mem_append.1 hp with hp | hp
            · exact .inl ⟨p, hp, h⟩
            · exact .inr ⟨p, hp, h⟩
          · rintro (⟨p, hp, h⟩ | ⟨p, hp, h⟩)
            · exact ⟨p, List.mem_append_left _ hp, h⟩
            · exact ⟨p, List.mem_append_right _ hp, h⟩
/-- A bracketed expression within a text. -/
theorem on_group {a L : List UInt8} {q : Nat} {p : PtD} (h : On a L (q + 1)) (h40 : L[q]? = some 40) (h41 : L[q + 1 + a.length]? = some 41) (hr : repD L (q + 1 + a.length + 1) = none) (xa : exprOf (brOf a 20) a 0 = .ok p a.length) : (∃ e, epieceD 20 (exAt L 20) L q = .bad e) ∨ epieceD 20 (exAt L 20) L q = .ok p (q + 1 + a.length + 1) := by
  have hx : eexprD L 19 (q + 1) = .bad 5 ∨ eexprD L 19 (q + 1) = .ok p (q + 1 + a.length) := by
    rw [expr_br]
    obtain ⟨_, _, xs, ane, rfl, hala⟩ := on_exprOf h (goes_br a 20) (fun i hi => on_br h 20 19 i hi) (Nat.zero_le _) xa
    unfold exprOf
    rcases hala [] L.length (by omega) with hz | ⟨r, m, hz, _, _, hz2⟩
    · rw [Nat.add_zero] at hz; rw [hz]; exact .inl rfl
    · rw [Nat.add_zero] at hz
      rw [hz]
      simp only [List.nil_append] at hz2 ⊢
      rcases hz2 with hz2 | ⟨K, _, hz2⟩
      · rw [hz2]; exact .inl rfl
      · rw [hz2, branches_stop (by rw [h41]; simp)]; exact .inr rfl
  unfold epieceD atomD
  rw [if_pos h40]
  unfold grpD
  rw [if_neg (by decide)]
  have e0 : exAt L 20 (q + 1) = eexprD L 19 (q + 1) := rfl
  rw [e0]
  rcases hx with hx | hx
  · rw [hx]; exact .inl ⟨5, rfl⟩
  · rw [hx]
    simp only [shutD]
    rw [if_pos h41]
    simp only
    have hrs : ∀ K, repsD L K p (q + 1 + a.length + 1) = .ok p (q + 1 + a.length + 1) := by
      intro K
      cases K with
      | zero => rfl
      | succ K => rw [repsD, hr]
    rw [hrs]
    unfold fewD
    simp only
    split
    · exact .inl ⟨4, rfl⟩
    · exact .inr rfl
/-- In brackets, one behind the other: what the one matches with what the other matches behind it. -/
theorem read_both {a b : List UInt8} {pa pb pe : PtD} {ja jb je : Nat} (ha : readD a = .ok pa ja) (hb : readD b = .ok pb jb) (he : readD (40 :: a ++ 41 :: 40 :: b ++ [41]) = .ok pe je) (s t : List UInt8) (hs : InE pa.e s) (ht : InE pb.e t) : InE pe.e (s ++ t) := by
  obtain ⟨_, _, xa⟩ := read_ok ha
  obtain ⟨_, _, xb⟩ := read_ok hb
  obtain ⟨_, _, xe⟩ := read_ok he
  obtain ⟨L, hL⟩ : ∃ L, 40 :: a ++ 41 :: 40 :: b ++ [41] = L := ⟨_, rfl⟩
  rw [hL] at xe
  have hL1 : L = [40] ++ (a ++ (41 :: 40 :: b ++ [41])) := by rw [← hL]; simp
  have hL2 : L = (40 :: a ++ [41, 40]) ++ (b ++ [41]) := by rw [← hL]; simp
  have hlen : L.length = a.length + b.length + 4 := by rw [← hL]; simp; omega
  have hn : L[L.length]? = none := List.getElem?_eq_none (Nat.le_refl _)
  have g0 : L[0]? = some 40 := by rw [hL1]; rfl
  have g1 : L[1 + a.length]? = some 41 := by
    rw [hL1, List.getElem?_append_right (by simp), List.getElem?_append_right (by simp)]; simp
  have g2 : L[1 + a.length + 1]? = some 40 := by
    rw [hL1, List.getElem?_append_right (by simp <;> omega), List.getElem?_append_right (by simp <;> omega)]
    have : 1 + a.length + 1 - ([40] : List UInt8).length - a.length = 1 := by simp <;> omega
    rw [this]; rfl
  have g3 : L[1 + a.length + 2 + b.length]? = some 41 := by
    rw [hL2, List.getElem?_append_right (by simp <;> omega), List.getElem?_append_right (by simp <;> omega)]
    have : 1 + a.length + 2 + b.length - (40 :: a ++ [41, 40]).length - b.length = 0 := by simp <;> omega
    rw [this]; rfl
  have oa : On a L (0 + 1) := ⟨⟨[40], _, hL1, rfl⟩, .inr (.inr (by rw [Nat.zero_add]; exact g1))⟩
  have ob : On b L (1 + a.length + 1 + 1) := ⟨⟨40 :: a ++ [41, 40], _, hL2, by simp; omega⟩, .inr (.inr g3)⟩
  have hr1 : repD L (0 + 1 + a.length + 1) = none := by
    unfold repD
    rw [Nat.zero_add, g2]; rfl
  have hend : 1 + a.length + 1 + 1 + b.length + 1 = L.length := by omega
  have hr2 : repD L (1 + a.length + 1 + 1 + b.length + 1) = none := by
    unfold repD
    rw [hend, hn]; rfl
  unfold exprOf brOf branchD at xe
  rcases on_group oa g0 (by rw [Nat.zero_add]; exact g1) hr1 xa with ⟨e, hz⟩ | hz
  · rw [hz] at xe; cases xe
  · rw [hz] at xe
    simp only at xe
    obtain ⟨K, hK⟩ : ∃ K, L.length = K + 1 + 1 := ⟨a.length + b.length + 2, by omega⟩
    have hm : moreB L (0 + 1 + a.length + 1) = true := by
      unfold moreB
      rw [Nat.zero_add, g2]; rfl
    have hp : piecesD (epieceD 20 (exAt L 20) L) L L.length [pa] (0 + 1 + a.length + 1) = (match epieceD 20 (exAt L 20) L (1 + a.length + 1) with
      | .bad e => .bad e
      | .ok p j => piecesD (epieceD 20 (exAt L 20) L) L (K + 1) ([pa] ++ [p]) j) := by
      have : ∀ n, n = K + 1 + 1 → piecesD (epieceD 20 (exAt L 20) L) L n [pa] (0 + 1 + a.length + 1) = (match epieceD 20 (exAt L 20) L (1 + a.length + 1) with
        | .bad e => .bad e
        | .ok p j => piecesD (epieceD 20 (exAt L 20) L) L (K + 1) ([pa] ++ [p]) j) := by
        intro n hn
        subst hn
        rw [piecesD, if_pos hm, Nat.zero_add]
        cases epieceD 20 (exAt L 20) L (1 + a.length + 1) <;> rfl
      exact this _ hK
    rw [hp] at xe
    rcases on_group ob g2 g3 hr2 xb with ⟨e, hw⟩ | hw
    · rw [hw] at xe; cases xe
    · rw [hw] at xe
      simp only at xe
      rw [hend] at xe
      have hm2 : moreB L L.length = false := by
        unfold moreB
        rw [hn]
      rw [piecesD, if_neg (by rw [hm2]; decide)] at xe
      simp only [joinR] at xe
      rw [branches_stop (by rw [hn]; simp)] at xe
      cases xe
      show InE (.mk 3 [] [pa.e, pb.e]) (s ++ t)
      refine InE.row _ _ _ ?_
      refine InRow.cons _ _ _ _ hs ?_
      have := InRow.cons pb.e [] t [] ht InRow.nil
      rwa [List.append_nil] at this
end Go.Proofs.YtdlljlmgoiobpaaGreatDoor
