/- What the document's closed reaches. Plain. -/
import Derived.Test.YtiekhoehkgmbjaaDoorARefA
namespace Go.Proofs.YtiekhoehkgmbjaaDoor
open Go.RowKit Go.Maps

def epsOf (A : List RSt) (i : Nat) : List Nat := match A[i]? with
  | some st => st.eps
  | none => []
/-- What a state is at once. -/
inductive EpsR (A : List RSt) (p : Nat) : Nat → Prop
  | nil : EpsR A p p
  | step (x y : Nat) (h : EpsR A p x) (hy : y ∈ epsOf A x) : EpsR A p y
/-- How much is still to be looked at. -/
def lack (A : List RSt) (out : List Nat) : Nat → Nat
  | 0 => 0
  | n + 1 => lack A out n + if n ∈ out then 0 else (epsOf A n).length + 1
theorem lack_all (A : List RSt) (out : List Nat) (N : Nat) : lack A out N ≤ lack A [] N := by
  induction N with
  | zero => exact Nat.le_refl _
  | succ n ih => simp only [lack]; split <;> simp <;> omega
theorem lack_ins (A : List RSt) (out : List Nat) (s : Nat) : ∀ N, lack A (insD s out) N + (if s < N ∧ s ∉ out then (epsOf A s).length + 1 else 0) = lack A out N := by
  intro N
  induction N with
  | zero => simp [lack]
  | succ n ih =>
    simp only [lack]
    by_cases hs : s = n
    · subst hs
      have h1 : ¬ (s < s ∧ s ∉ out) := by omega
      rw [if_neg h1] at ih
      by_cases ho : s ∈ out
      · rw [if_pos ((insD_mem s s out).2 (.inl rfl)), if_pos ho, if_neg (fun h => h.2 ho)]; omega
      · rw [if_pos ((insD_mem s s out).2 (.inl rfl)), if_neg ho, if_pos ⟨by omega, ho⟩]; omega
    · have e1 : (n ∈ insD s out) = (n ∈ out) := propext ((insD_mem s n out).trans ⟨fun h => h.resolve_left (fun e => hs e.symm), .inr⟩)
      have e2 : (s < n + 1 ∧ s ∉ out) = (s < n ∧ s ∉ out) := propext (and_congr (by omega) Iff.rfl)
      have e3 : (if n ∈ insD s out then 0 else (epsOf A n).length + 1) = (if n ∈ out then 0 else (epsOf A n).length + 1) := by
        by_cases ho : n ∈ out
        · rw [if_pos ho, if_pos (e1 ▸ ho)]
        · rw [if_neg ho, if_neg (e1 ▸ ho)]
      have e4 : (if s < n + 1 ∧ s ∉ out then (epsOf A s).length + 1 else 0) = (if s < n ∧ s ∉ out then (epsOf A s).length + 1 else 0) := by
        by_cases ho : s < n ∧ s ∉ out
        · rw [if_pos ho, if_pos (e2 ▸ ho)]
        · rw [if_neg ho, if_neg (e2 ▸ ho)]
      rw [e3, e4]
      omega
theorem lack_none (A : List RSt) : lack A [] A.length ≤ epsT A + A.length := by
  have key : ∀ n, n ≤ A.length → lack A [] n ≤ epsT (A.take n) + n := by
    intro n
    induction n with
    | zero => intro _; simp [lack]
    | succ n ih =>
      intro hn
      have h := ih (by omega)
      have e1 : A.take (n + 1) = A.take n ++ [A[n]] := by rw [List.take_add_one, List.getElem?_eq_getElem (by omega)]; rfl
      rw [e1, epsT_snoc]
      simp only [lack, List.not_mem_nil, if_false]
      have e : epsOf A n = A[n].eps := by unfold epsOf; rw [List.getElem?_eq_getElem (by omega)]
      rw [e]
      omega
  have := key A.length (Nat.le_refl _)
  rwa [List.take_length] at this
structure CI (A : List RSt) (l0 : List Nat) (m : Nat) (todo out : List Nat) : Prop where
  asc : Asc out
  lt : ∀ y, y ∈ out ∨ y ∈ todo → y < A.length
  snd : ∀ y, y ∈ out ∨ y ∈ todo → ∃ x ∈ l0, EpsR A x y
  all : ∀ x ∈ l0, x ∈ out ∨ x ∈ todo
  cl : ∀ x ∈ out, ∀ y ∈ epsOf A x, y ∈ out ∨ y ∈ todo
  mu : lack A out A.length + todo.length ≤ m
theorem CI.start {A : List RSt} {l0 : List Nat} (hl : ∀ x ∈ l0, x < A.length) : CI A l0 (epsT A + A.length + l0.length) l0 [] := by
  refine ⟨List.Pairwise.nil, fun y hy => ?_, fun y hy => ?_, fun x hx => .inr hx, fun x hx => (by cases hx), ?_⟩
  · rcases hy with h | h
    · cases h
    · exact hl y h
  · rcases hy with h | h
    · cases h
    · exact ⟨y, h, .nil⟩
  · have := lack_none A; omega
theorem CI.seen {A : List RSt} {l0 : List Nat} {m : Nat} {todo out : List Nat} {s : Nat} (h : CI A l0 m (todo ++ [s]) out) (hs : s ∈ out) : CI A l0 (m - 1) todo out ∧ 1 ≤ m := by
  have hm := h.mu
  rw [List.length_append, List.length_singleton] at hm
  have hmem : ∀ y, (y ∈ out ∨ y ∈ todo ++ [s]) → y ∈ out ∨ y ∈ todo := fun y hy => by
    rcases hy with hy | hy
    · exact .inl hy
    · rcases List.mem_append.1 hy with hy | hy
      · exact .inr hy
      · rw [List.mem_singleton] at hy; subst hy; exact .inl hs
  refine ⟨⟨h.asc, fun y hy => h.lt y (hy.imp id (fun z => by simp [z])), fun y hy => h.snd y (hy.imp id (fun z => by simp [z])), fun x hx => hmem x (h.all x hx), fun x hx y hy => hmem y (h.cl x hx y hy), by omega⟩, by omega⟩
theorem CI.new {A : List RSt} {l0 : List Nat} {m : Nat} {todo out : List Nat} {s : Nat} (hw : Wf A) (h : CI A l0 m (todo ++ [s]) out) (hs : s ∉ out) : CI A l0 (m - 1) (todo ++ epsOf A s) (insD s out) ∧ 1 ≤ m := by
  have hm := h.mu
  rw [List.length_append, List.length_singleton] at hm
  have hsl := h.lt s (.inr (by simp))
  have hmem : ∀ y, (y ∈ out ∨ y ∈ todo ++ [s]) → y ∈ insD s out ∨ y ∈ todo ++ epsOf A s := fun y hy => by
    rw [insD_mem]
    rcases hy with hy | hy
    · exact .inl (.inr hy)
    · rcases List.mem_append.1 hy with hy | hy
      · exact .inr (by simp [hy])
      · rw [List.mem_singleton] at hy; exact .inl (.inl hy)
  have hback : ∀ y, (y ∈ insD s out ∨ y ∈ todo ++ epsOf A s) → (y ∈ out ∨ y ∈ todo ++ [s]) ∨ y ∈ epsOf A s := fun y hy => by
    rw [insD_mem] at hy
    rcases hy with (rfl | hy) | hy
    · exact .inl (.inr (by simp))
    · exact .inl (.inl hy)
    · rcases List.mem_append.1 hy with hy | hy
      · exact .inl (.inr (by simp [hy]))
      · exact .inr hy
  refine ⟨⟨insD_asc s out h.asc, fun y hy => ?_, fun y hy => ?_, fun x hx => hmem x (h.all x hx), fun x hx y hy => ?_, ?_⟩, by omega⟩
  · rcases hback y hy with hy | hy
    · exact h.lt y hy
    · unfold epsOf at hy
      rw [List.getElem?_eq_getElem hsl] at hy
      exact (hw _ (List.getElem_mem hsl)).2 y hy
  · rcases hback y hy with hy | hy
    · exact h.snd y hy
    · obtain ⟨x, hx, hr⟩ := h.snd s (.inr (by simp))
      exact ⟨x, hx, .step s y hr hy⟩
  · rw [insD_mem] at hx
    rcases hx with rfl | hx
    · exact .inr (by simp [hy])
    · exact hmem y (h.cl x hx y hy)
  · have := lack_ins A out s A.length
    rw [if_pos ⟨hsl, hs⟩] at this
    rw [List.length_append]
    omega
/-- A list of states, and all that they are at once. -/
structure ClosedL (A : List RSt) (l0 out : List Nat) : Prop where
  asc : Asc out
  all : ∀ y, y ∈ out ↔ ∃ x ∈ l0, EpsR A x y
  lt : ∀ y ∈ out, y < A.length
theorem CI.done {A : List RSt} {l0 : List Nat} {m : Nat} {out : List Nat} (h : CI A l0 m [] out) : ClosedL A l0 out := by
  have nt : ∀ {y}, y ∈ out ∨ y ∈ ([] : List Nat) → y ∈ out := fun hy => hy.resolve_right (fun h => by cases h)
  refine ⟨h.asc, fun y => ⟨fun hy => h.snd y (.inl hy), ?_⟩, fun y hy => h.lt y (.inl hy)⟩
  rintro ⟨x, hx, hr⟩
  induction hr with
  | nil => exact nt (h.all x hx)
  | step x y _ hy ih => exact nt (h.cl x ih y hy)
end Go.Proofs.YtiekhoehkgmbjaaDoor
