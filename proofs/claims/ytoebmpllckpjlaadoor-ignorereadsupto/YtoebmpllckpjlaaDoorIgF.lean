/- The document's blanks at a line's end, plainly: the same as cutBlanks. -/
import Derived.Test.YtoebmpllckpjlaaDoorIgA
namespace Go.Proofs.YtoebmpllckpjlaaDoor
open Go.RowKit Go.Maps

/-- Which bytes stand behind no sign that holds them. -/
def liveGo : Bool → List UInt8 → List Bool
  | _, [] => []
  | true, _ :: r => false :: liveGo false r
  | false, x :: r => true :: liveGo (x == 92) r
def scanB (st : Bool) (l : List UInt8) : Bool := l.foldl (fun st x => if st then false else x == 92) st
theorem liveGo_append : ∀ (a c : List UInt8) (st : Bool), liveGo st (a ++ c) = liveGo st a ++ liveGo (scanB st a) c := by
  intro a c
  induction a with
  | nil => intro st; simp [liveGo, scanB]
  | cons x r ih =>
    intro st
    cases st with
    | true => rw [List.cons_append, liveGo, liveGo, ih]; rfl
    | false => rw [List.cons_append, liveGo, liveGo, ih]; rfl
theorem liveGo_length : ∀ (a : List UInt8) (st : Bool), (liveGo st a).length = a.length := by
  intro a
  induction a with
  | nil => intro st; simp [liveGo]
  | cons x r ih => intro st; cases st <;> simp [liveGo, ih]
theorem live_blanks (m : Nat) : liveGo false (List.replicate m 32) = List.replicate m true := by
  induction m with
  | zero => rfl
  | succ m ih =>
    rw [List.replicate_succ, List.replicate_succ, liveGo]
    show true :: liveGo false _ = _
    rw [ih]
theorem live_blanks1 (m : Nat) : liveGo true (List.replicate (m + 1) 32) = false :: List.replicate m true := by
  rw [List.replicate_succ, liveGo, live_blanks]
theorem trim_snoc (b : List UInt8) (x c : UInt8) : Lib.trimRightB (b ++ [x]) c = if x == c then Lib.trimRightB b c else b ++ [x] := by
  unfold Lib.trimRightB
  rw [List.reverse_append, List.reverse_singleton, List.singleton_append, List.dropWhile_cons]
  split
  · rfl
  · simp
theorem scan_snoc (b : List UInt8) (x : UInt8) : scanB false (b ++ [x]) = if scanB false b then false else x == 92 := by simp [scanB]
theorem scan_odd (b : List UInt8) : scanB false b = decide ((b.length - (Lib.trimRightB b 92).length) % 2 = 1) := by
  obtain ⟨r, rfl⟩ : ∃ r : List UInt8, b = r.reverse := ⟨b.reverse, by simp⟩
  induction r with
  | nil => rfl
  | cons x r ih =>
    have hl := trim_len r.reverse 92
    rw [List.reverse_cons, scan_snoc]
    by_cases hx : x = 92
    · subst hx
      have e : Lib.trimRightB (r.reverse ++ [92]) 92 = Lib.trimRightB r.reverse 92 := by rw [trim_snoc]; exact if_pos rfl
      rw [e, ih, List.length_append, List.length_singleton]
      by_cases ho : (r.reverse.length - (Lib.trimRightB r.reverse 92).length) % 2 = 1
      · rw [decide_eq_true ho, if_pos rfl, decide_eq_false (by omega)]
      · rw [decide_eq_false ho, if_neg (by decide), decide_eq_true (by omega)]
        rfl
    · have hb : (x == (92 : UInt8)) = false := beq_eq_false_iff_ne.2 hx
      have e : Lib.trimRightB (r.reverse ++ [x]) 92 = r.reverse ++ [x] := by rw [trim_snoc, hb]; rfl
      rw [e, hb, Nat.sub_self]
      split <;> rfl
theorem trim_split (l : List UInt8) (c : UInt8) : ∃ m, l = Lib.trimRightB l c ++ List.replicate m c ∧ ∀ k, (Lib.trimRightB l c).length = k + 1 → (Lib.trimRightB l c)[k]? ≠ some c := by
  obtain ⟨r, rfl⟩ : ∃ r : List UInt8, l = r.reverse := ⟨l.reverse, by simp⟩
  induction r with
  | nil => exact ⟨0, rfl, fun k h => by cases h⟩
  | cons x r ih =>
    rw [List.reverse_cons, trim_snoc]
    by_cases hx : x = c
    · subst hx
      rw [if_pos (by simp)]
      obtain ⟨m, h1, h2⟩ := ih
      refine ⟨m + 1, ?_, h2⟩
      rw [List.replicate_succ', ← List.append_assoc, ← h1]
    · have hb : (x == c) = false := beq_eq_false_iff_ne.2 hx
      rw [hb, if_neg (by decide)]
      refine ⟨0, by simp, fun k hk => ?_⟩
      rw [List.length_append, List.length_singleton] at hk
      rw [List.getElem?_append_right (by omega), show k - r.reverse.length = 0 by omega]
      simpa using hx
/-- How much is left. -/
def trimK (l : List UInt8) (lv : List Bool) : Nat → Nat
  | 0 => 0
  | k + 1 => if l[k]? = some 32 ∧ lv[k]? = some true then trimK l lv k else k + 1
theorem trimK_blanks (l : List UInt8) (lv : List Bool) (b : Nat) : ∀ j, (∀ k, b ≤ k → k < b + j → l[k]? = some 32 ∧ lv[k]? = some true) → trimK l lv (b + j) = trimK l lv b := by
  intro j
  induction j with
  | zero => intro _; rfl
  | succ j ih =>
    intro h
    show trimK l lv ((b + j) + 1) = _
    rw [trimK, if_pos (h (b + j) (by omega) (by omega))]
    exact ih (fun k h1 h2 => h k h1 (by omega))
theorem trimmed_eq (l : List UInt8) : l.take (trimK l (liveGo false l) l.length) = cutBlanksL l := by
  obtain ⟨m, hl, hlast⟩ := trim_split l 32
  have hodd := scan_odd (Lib.trimRightB l 32)
  unfold cutBlanksL
  obtain ⟨b, hb⟩ : ∃ b, Lib.trimRightB l 32 = b := ⟨_, rfl⟩
  rw [hb] at hl hlast hodd ⊢
  have hlen : l.length = b.length + m := by rw [hl]; simp
  have hlv : liveGo false l = liveGo false b ++ liveGo (scanB false b) (List.replicate m 32) := by
    conv => lhs; rw [hl]
    exact liveGo_append _ _ _
  have hsp : ∀ k, b.length ≤ k → k < l.length → l[k]? = some 32 := by
    intro k h1 h2
    rw [hl, List.getElem?_append_right h1, List.getElem?_replicate, if_pos (by omega)]
  have hbt : l.take b.length = b := by rw [hl]; simp
  have hstop : trimK l (liveGo false l) b.length = b.length := by
    cases hbl : b.length with
    | zero => rfl
    | succ k =>
      rw [trimK, if_neg]
      rintro ⟨h, _⟩
      have hne := hlast k hbl
      rw [hl, List.getElem?_append_left (by omega)] at h
      exact hne h
  by_cases ho : (b.length - (Lib.trimRightB b 92).length) % 2 = 1 ∧ b.length < l.length
  · rw [if_pos ho]
    rw [decide_eq_true ho.1] at hodd
    obtain ⟨j, rfl⟩ : ∃ j, m = j + 1 := ⟨m - 1, by omega⟩
    rw [hodd, live_blanks1] at hlv
    have hll := liveGo_length b false
    have e1 : trimK l (liveGo false l) ((b.length + 1) + j) = trimK l (liveGo false l) (b.length + 1) := by
      refine trimK_blanks _ _ _ j (fun k h1 h2 => ⟨hsp k (by omega) (by omega), ?_⟩)
      rw [hlv, List.getElem?_append_right (by omega), hll]
      obtain ⟨q, hq⟩ : ∃ q, k - b.length = q + 1 := ⟨k - b.length - 1, by omega⟩
      rw [hq, List.getElem?_cons_succ, List.getElem?_replicate, if_pos (by omega)]
    have e2 : trimK l (liveGo false l) (b.length + 1) = b.length + 1 := by
      rw [trimK, if_neg]
      rintro ⟨_, h⟩
      rw [hlv, List.getElem?_append_right (by omega), hll, Nat.sub_self] at h
      cases h
    rw [hlen, show b.length + (j + 1) = b.length + 1 + j by omega, e1, e2]
  · rw [if_neg ho]
    have e1 : trimK l (liveGo false l) (b.length + m) = trimK l (liveGo false l) b.length := by
      refine trimK_blanks _ _ _ m (fun k h1 h2 => ⟨hsp k h1 (by omega), ?_⟩)
      have hsc : scanB false b = false := by
        rw [hodd]
        exact decide_eq_false (fun h => ho ⟨h, by omega⟩)
      rw [hlv, hsc, live_blanks, List.getElem?_append_right (by rw [liveGo_length]; omega), liveGo_length, List.getElem?_replicate, if_pos (by omega)]
    rw [hlen, e1, hstop, hbt]
end Go.Proofs.YtoebmpllckpjlaaDoor
