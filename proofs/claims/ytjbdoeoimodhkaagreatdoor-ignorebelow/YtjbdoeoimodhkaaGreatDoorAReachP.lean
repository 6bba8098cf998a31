/- What reach reaches. Plain, over sets as words. -/
import Derived.Test.YtjbdoeoimodhkaaGreatDoorAFrom
namespace Go.Proofs.YtjbdoeoimodhkaaGreatDoor
open Go.RowKit

/-- A free way. -/
def EWay (ch : Nat → List WayD) (x y : Nat) : Prop := ∃ d ∈ ch x, d.by_ = -1 ∧ d.to = (y : Int)
inductive ERch (ch : Nat → List WayD) (p : Nat) : Nat → Prop
  | nil : ERch ch p p
  | step (x y : Nat) (h : ERch ch p x) (hy : EWay ch x y) : ERch ch p y
/-- A set with all that its members are at once. -/
def ClosedS (ch : Nat → List WayD) (ws : List Nat) : Prop := ∀ x, inS ws x = true → ∀ y, EWay ch x y → inS ws y = true
def miss : Nat → List Nat → Nat
  | 0, _ => 0
  | n + 1, ws => miss n ws + if inS ws n = true then 0 else 1
theorem miss_le (n : Nat) (ws : List Nat) : miss n ws ≤ n := by
  induction n with
  | zero => exact Nat.le_refl _
  | succ n ih => simp only [miss]; split <;> omega
theorem miss_past {k : Nat} {ws : List Nat} (hk : k / 64 < ws.length) : ∀ n, n ≤ k → miss n (addS ws k) = miss n ws := by
  intro n
  induction n with
  | zero => intro _; rfl
  | succ n ih =>
    intro h
    simp only [miss]
    rw [ih (by omega), inS_add hk, show decide (k = n) = false from decide_eq_false (by omega), Bool.or_false]
theorem miss_add {k : Nat} {ws : List Nat} (hk : k / 64 < ws.length) (hn : inS ws k = false) : ∀ n, k < n → miss n (addS ws k) + 1 = miss n ws := by
  intro n
  induction n with
  | zero => intro h; omega
  | succ n ih =>
    intro h
    simp only [miss]
    by_cases e : k = n
    · subst e
      rw [miss_past hk k (Nat.le_refl _), inS_add hk, hn]
      simp
    · have := ih (by omega)
      rw [inS_add hk, show decide (k = n) = false from decide_eq_false e, Bool.or_false]
      omega
structure RI (N : Nat) (ch : Nat → List WayD) (k : Nat) (ws0 : List Nat) (m : Nat) (hole : Nat → Prop) (ws1 opn : List Nat) : Prop where
  len : ws1.length = ws0.length
  sub : ∀ y, inS ws0 y = true → inS ws1 y = true
  at_ : inS ws1 k = true
  snd : ∀ y, inS ws1 y = true → inS ws0 y = true ∨ ERch ch k y
  ops : ∀ y ∈ opn, inS ws1 y = true ∧ y < N
  cl : ∀ x, inS ws1 x = true → hole x ∨ x ∈ opn ∨ ∀ y, EWay ch x y → inS ws1 y = true
  mu : miss N ws1 + opn.length ≤ m
theorem RI.start {N k : Nat} {ch : Nat → List WayD} {ws0 : List Nat} (hN : N ≤ ws0.length * 64) (hk : k < N) (hc : ClosedS ch ws0) (hn : inS ws0 k = false) : RI N ch k ws0 (N + 1) (fun _ => False) (addS ws0 k) [k] := by
  have hk' : k / 64 < ws0.length := by omega
  refine ⟨addS_length _ _, fun y hy => ?_, ?_, fun y hy => ?_, fun y hy => ?_, fun x hx => ?_, ?_⟩
  · rw [inS_add hk', hy]; rfl
  · rw [inS_add hk']; simp
  · rw [inS_add hk'] at hy
    simp at hy
    rcases hy with h | rfl
    · exact .inl h
    · exact .inr .nil
  · simp at hy
    subst hy
    rw [inS_add hk']; simp [hk]
  · rw [inS_add hk'] at hx
    simp at hx
    rcases hx with h | rfl
    · exact .inr (.inr fun y hy => by rw [inS_add hk', hc x h y hy]; rfl)
    · exact .inr (.inl (by simp))
  · have := miss_add hk' hn N hk
    have := miss_le N ws0
    simp only [List.length_cons, List.length_nil]
    omega
/-- The last of the list is taken off. -/
theorem RI.pop {N k m : Nat} {ch : Nat → List WayD} {ws0 ws1 opn : List Nat} {x : Nat} (h : RI N ch k ws0 m (fun _ => False) ws1 (opn ++ [x])) : RI N ch k ws0 (m - 1) (fun y => y = x) ws1 opn ∧ x < N ∧ inS ws1 x = true ∧ 1 ≤ m := by
  have hx := h.ops x (by simp)
  have hm := h.mu
  simp only [List.length_append, List.length_singleton] at hm
  refine ⟨⟨h.len, h.sub, h.at_, h.snd, fun y hy => h.ops y (by simp [hy]), fun y hy => ?_, by omega⟩, hx.2, hx.1, by omega⟩
  rcases h.cl y hy with h | h | h
  · exact h.elim
  · rcases List.mem_append.1 h with h | h
    · exact .inr (.inl h)
    · simp at h; exact .inl h
  · exact .inr (.inr h)
/-- A free way to what is not there yet. -/
theorem RI.push {N k m : Nat} {ch : Nat → List WayD} {ws0 ws1 opn : List Nat} {x y : Nat} (hN : N ≤ ws0.length * 64) (hc : ClosedS ch ws0) (h : RI N ch k ws0 m (fun y => y = x) ws1 opn) (hx : inS ws1 x = true) (hy : EWay ch x y) (hyN : y < N) (hn : inS ws1 y = false) : RI N ch k ws0 m (fun y => y = x) (addS ws1 y) (opn ++ [y]) := by
  have hy' : y / 64 < ws1.length := by rw [h.len]; omega
  have hr : ERch ch k y := by
    rcases h.snd x hx with h0 | h0
    · have := h.sub y (hc x h0 y hy)
      rw [hn] at this; cases this
    · exact .step x y h0 hy
  refine ⟨by rw [addS_length, h.len], fun z hz => ?_, ?_, fun z hz => ?_, fun z hz => ?_, fun z hz => ?_, ?_⟩
  · rw [inS_add hy', h.sub z hz]; rfl
  · rw [inS_add hy', h.at_]; rfl
  · rw [inS_add hy'] at hz
    simp at hz
    rcases hz with h1 | rfl
    · exact h.snd z h1
    · exact .inr hr
  · rcases List.mem_append.1 hz with hz | hz
    · have := h.ops z hz
      rw [inS_add hy', this.1]; exact ⟨rfl, this.2⟩
    · simp at hz
      subst hz
      rw [inS_add hy']; simp [hyN]
  · rw [inS_add hy'] at hz
    simp at hz
    rcases hz with h1 | rfl
    · rcases h.cl z h1 with h2 | h2 | h2
      · exact .inl h2
      · exact .inr (.inl (by simp [h2]))
      · exact .inr (.inr fun u hu => by rw [inS_add hy', h2 u hu]; rfl)
    · exact .inr (.inl (by simp))
  · have := miss_add hy' hn N hyN
    have := h.mu
    simp only [List.length_append, List.length_singleton]
    omega
theorem RI.shut {N k m : Nat} {ch : Nat → List WayD} {ws0 ws1 opn : List Nat} {x : Nat} (h : RI N ch k ws0 m (fun y => y = x) ws1 opn) (hx : ∀ y, EWay ch x y → inS ws1 y = true) : RI N ch k ws0 m (fun _ => False) ws1 opn := by
  refine ⟨h.len, h.sub, h.at_, h.snd, h.ops, fun y hy => ?_, h.mu⟩
  rcases h.cl y hy with rfl | h | h
  · exact .inr (.inr hx)
  · exact .inr (.inl h)
  · exact .inr (.inr h)
/-- What reach leaves. -/
structure Reached (ch : Nat → List WayD) (k : Nat) (ws ws' : List Nat) : Prop where
  len : ws'.length = ws.length
  all : ∀ y, inS ws' y = true ↔ inS ws y = true ∨ ERch ch k y
  cl : ClosedS ch ws'
theorem RI.done {N k m : Nat} {ch : Nat → List WayD} {ws0 ws1 : List Nat} (h : RI N ch k ws0 m (fun _ => False) ws1 []) : Reached ch k ws0 ws1 := by
  have hc : ClosedS ch ws1 := fun x hx y hy => by
    rcases h.cl x hx with h | h | h
    · exact h.elim
    · cases h
    · exact h y hy
  refine ⟨h.len, fun y => ⟨h.snd y, fun h0 => ?_⟩, hc⟩
  rcases h0 with h0 | h0
  · exact h.sub y h0
  · induction h0 with
    | nil => exact h.at_
    | step x y _ hy ih => exact hc x ih y hy
theorem Reached.there {ch : Nat → List WayD} {k : Nat} {ws : List Nat} (hc : ClosedS ch ws) (hk : inS ws k = true) : Reached ch k ws ws := by
  refine ⟨rfl, fun y => ⟨.inl, fun h => ?_⟩, hc⟩
  rcases h with h | h
  · exact h
  · induction h with
    | nil => exact hk
    | step x y _ hy ih => exact hc x ih y hy
end Go.Proofs.YtjbdoeoimodhkaaGreatDoor
