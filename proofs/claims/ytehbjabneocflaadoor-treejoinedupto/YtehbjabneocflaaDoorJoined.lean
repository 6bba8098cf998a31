/- A path in two pieces, gone as one: where there are no links. -/
import Derived.Test.YtehbjabneocflaaDoorSpec
namespace Go.Proofs.YtehbjabneocflaaDoor
open Go.RowKit

def noLinks (L : List NodeD) : Prop := ∀ (i : Nat) (m : NodeD), L[i]? = some m → (m.kind == 108) = false
theorem step_free {L : List NodeD} (h : noLinks L) (thr thr' : Nat → ByteArray → Nat → FRes) (k : Nat) (n : NodeD) (p : ByteArray) (th th' : Bool) (links : Nat) : stepD L thr k n p th links = stepD L thr' k n p th' links := by
  unfold stepD
  cases hm : L[(kidOf L n.kids p).toNat]? with
  | none => rfl
  | some m =>
    have hk := h _ m hm
    simp only [hk, Bool.false_and, Bool.false_eq_true, if_false]
theorem step_links {L : List NodeD} (h : noLinks L) (thr : Nat → ByteArray → Nat → FRes) (k : Nat) (n : NodeD) (p : ByteArray) (th : Bool) (links : Nat) : (stepD L thr k n p th links).2.2 = links := by
  rw [step_free h thr thr k n p th false links]
  unfold stepD
  repeat' split
  all_goals simp_all
theorem go_free {L : List NodeD} (h : noLinks L) (thr thr' : Nat → ByteArray → Nat → FRes) (last last' : Bool) : ∀ (ps : List ByteArray) (k links : Nat), goD L thr last ps k links = goD L thr' last' ps k links := by
  intro ps
  induction ps with
  | nil => intro k links; rfl
  | cons p ps ih =>
    intro k links
    unfold goD
    cases hn : L[k]? with
    | none => rfl
    | some n =>
      show (if dirD n = false then _ else _) = (if dirD n = false then _ else _)
      rw [step_free h thr thr' k n p (last || !ps.isEmpty) (last' || !ps.isEmpty) links, ih]
theorem goD_stay {L : List NodeD} {thr : Nat → ByteArray → Nat → FRes} {last : Bool} {p : ByteArray} {ps : List ByteArray} {k links : Nat} (hn : ∀ n, L[k]? = some n → dirD n = false) : goD L thr last (p :: ps) k links = (0, 7, links) := by
  unfold goD
  cases e : L[k]? with
  | none => rfl
  | some n => exact if_pos (hn n e)
theorem goD_on {L : List NodeD} {thr : Nat → ByteArray → Nat → FRes} {last : Bool} {p : ByteArray} {ps : List ByteArray} {k links : Nat} {n : NodeD} (hn : L[k]? = some n) (hd : ¬ dirD n = false) : goD L thr last (p :: ps) k links =
    if (stepD L thr k n p (last || !ps.isEmpty) links).2.1 = 0 then goD L thr last ps (stepD L thr k n p (last || !ps.isEmpty) links).1 (stepD L thr k n p (last || !ps.isEmpty) links).2.2
        else (0, (stepD L thr k n p (last || !ps.isEmpty) links).2.1, (stepD L thr k n p (last || !ps.isEmpty) links).2.2) := by
  conv => lhs; unfold goD
  rw [hn]
  exact if_neg hd
theorem go_app {L : List NodeD} (h : noLinks L) (thr : Nat → ByteArray → Nat → FRes) (last : Bool) (qs : List ByteArray) : ∀ (ps : List ByteArray) (k links : Nat), goD L thr last (ps ++ qs) k links =
    if (goD L thr last ps k links).2.1 = 0 then goD L thr last qs (goD L thr last ps k links).1 links else goD L thr last ps k links := by
  intro ps
  induction ps with
  | nil => intro k links; rw [show goD L thr last [] k links = (k, 0, links) from rfl]; rfl
  | cons p ps ih =>
    intro k links
    rw [List.cons_append]
    by_cases hd : ∀ n, L[k]? = some n → dirD n = false
    · rw [goD_stay hd, goD_stay hd, if_neg (show ¬ (7 : Int) = 0 by decide)]
    · obtain ⟨n, hn, hdn⟩ : ∃ n, L[k]? = some n ∧ ¬ dirD n = false := by
        cases e : L[k]? with
        | none => exact absurd (fun n h => by rw [e] at h; cases h) hd
        | some n => exact ⟨n, rfl, fun hx => hd (fun m hm => by rw [e] at hm; cases hm; exact hx)⟩
      rw [goD_on hn hdn, goD_on hn hdn, step_free h thr thr k n p (last || !(ps ++ qs).isEmpty) (last || !ps.isEmpty) links]
      by_cases he : (stepD L thr k n p (last || !ps.isEmpty) links).2.1 = 0
      · rw [if_pos he, if_pos he, step_links h, ih]
      · rw [if_neg he, if_neg he, if_neg he]
theorem go_links {L : List NodeD} (h : noLinks L) (thr : Nat → ByteArray → Nat → FRes) (last : Bool) : ∀ (ps : List ByteArray) (k links : Nat), (goD L thr last ps k links).2.2 = links := by
  intro ps
  induction ps with
  | nil => intro k links; rfl
  | cons p ps ih =>
    intro k links
    by_cases hd : ∀ n, L[k]? = some n → dirD n = false
    · rw [goD_stay hd]
    · obtain ⟨n, hn, hdn⟩ : ∃ n, L[k]? = some n ∧ ¬ dirD n = false := by
        cases e : L[k]? with
        | none => exact absurd (fun n h => by rw [e] at h; cases h) hd
        | some n => exact ⟨n, rfl, fun hx => hd (fun m hm => by rw [e] at hm; cases hm; exact hx)⟩
      rw [goD_on hn hdn]
      by_cases he : (stepD L thr k n p (last || !ps.isEmpty) links).2.1 = 0
      · rw [if_pos he, ih, step_links h]
      · rw [if_neg he]; exact step_links h _ _ _ _ _ _
theorem partsS_cat (a b : ByteArray) : partsS (a ++ ⟨#[47]⟩ ++ b) = partsS a ++ partsS b := by
  rw [partsS_neL, partsS_neL, partsS_neL, data_app, data_app]
  show List.map bs (neL (a.data.toList ++ [47] ++ b.data.toList)) = _
  rw [List.append_assoc, List.singleton_append, neL_cat, List.map_append]
theorem partsS_some {b : ByteArray} (h1 : 1 ≤ b.size) (h0 : ¬ b.data.toList.head? = some 47) : ∃ p ps, partsS b = p :: ps := by
  have hne : neL b.data.toList ≠ [] := by
    cases e : b.data.toList with
    | nil => exact absurd (show b.size = 0 by rw [← size_list, e]; rfl) (by omega)
    | cons x r =>
      rw [e] at h0
      have hx : ¬ x = 47 := fun e => h0 (by rw [e]; rfl)
      unfold neL splitL
      rw [if_neg hx]
      cases splitL 47 r <;> simp
  rw [partsS_neL]
  cases e : neL b.data.toList with
  | nil => exact absurd e hne
  | cons p ps => exact ⟨_, _, rfl⟩
theorem ends_cat (a b : ByteArray) (h1 : 1 ≤ b.size) : endsSlash (a ++ ⟨#[47]⟩ ++ b) = endsSlash b := by
  unfold endsSlash
  rw [data_app]
  cases e : b.data.toList with
  | nil => exact absurd (show b.size = 0 by rw [← size_list, e]; rfl) (by omega)
  | cons x r =>
    rw [List.getLast?_append]
    cases e2 : (x :: r).getLast? with
    | none => simp at e2
    | some y => rfl
def thrJ (L : List NodeD) : Nat → ByteArray → Nat → FRes := fun k t l => findD L 40 k t true l
theorem find_eq (L : List NodeD) (k : Nat) (s : ByteArray) (hs : 1 ≤ s.size) : findD L 41 k s true 0 = endD L (endsSlash s) (goD L (thrJ L) true (partsS s) (startAt s k) 0) := by
  conv => lhs; unfold findD
  rw [emp_no hs, if_neg (by decide), Bool.true_or]
  rfl
theorem joined {L : List NodeD} (h : noLinks L) (a b : ByteArray) (ha : 1 ≤ a.size) (hb : 1 ≤ b.size) (h0 : ¬ b.data.toList.head? = some 47) :
    (¬ (findD L 41 0 a true 0).2.1 = 0 → (findD L 41 0 (a ++ ⟨#[47]⟩ ++ b) true 0).2.1 = (findD L 41 0 a true 0).2.1) ∧
    ((findD L 41 0 a true 0).2.1 = 0 → findD L 41 0 (a ++ ⟨#[47]⟩ ++ b) true 0 = findD L 41 (findD L 41 0 a true 0).1 b true 0) := by
  have s1 : startAt a 0 = 0 := by unfold startAt; split <;> rfl
  have s3 : startAt (a ++ ⟨#[47]⟩ ++ b) 0 = 0 := by unfold startAt; split <;> rfl
  have s2 : ∀ k, startAt b k = k := fun k => by unfold startAt; rw [if_neg h0]
  obtain ⟨p, ps, hp⟩ := partsS_some hb h0
  have hl := go_links h (thrJ L) true (partsS a) 0 0
  have fN : findD L 41 0 (a ++ ⟨#[47]⟩ ++ b) true 0 = endD L (endsSlash b) (if (goD L (thrJ L) true (partsS a) 0 0).2.1 = 0 then goD L (thrJ L) true (partsS b) (goD L (thrJ L) true (partsS a) 0 0).1 0 else goD L (thrJ L) true (partsS a) 0 0) := by
    rw [find_eq L 0 _ (by simp; omega), s3, ends_cat a b hb, partsS_cat, go_app h]
  have fA : findD L 41 0 a true 0 = endD L (endsSlash a) (goD L (thrJ L) true (partsS a) 0 0) := by rw [find_eq L 0 a ha, s1]
  have fB : ∀ k, findD L 41 k b true 0 = endD L (endsSlash b) (goD L (thrJ L) true (partsS b) k 0) := fun k => by rw [find_eq L k b hb, s2]
  rw [fN, fB, fA]
  generalize goD L (thrJ L) true (partsS a) 0 0 = A at hl ⊢
  obtain ⟨k, e, l⟩ := A
  obtain rfl : l = 0 := hl
  by_cases he : e = 0
  · subst he
    rw [if_pos rfl]
    by_cases hd : ∀ n, L[k]? = some n → (endsSlash a && !dirD n) = false
    · have e1 : endD L (endsSlash a) (k, 0, 0) = (k, 0, 0) := by
        unfold endD
        rw [if_pos rfl]
        cases hn : L[k]? with
        | none => rfl
        | some n => exact if_neg (by rw [hd n hn]; decide)
      rw [e1]
      exact ⟨fun h => absurd rfl h, fun _ => rfl⟩
    · obtain ⟨n, hn, hdn⟩ : ∃ n, L[k]? = some n ∧ (endsSlash a && !dirD n) = true := by
        cases e : L[k]? with
        | none => exact absurd (fun n h => by rw [e] at h; cases h) hd
        | some n =>
          refine ⟨n, rfl, ?_⟩
          cases hx : (endsSlash a && !dirD n)
          · exact absurd (fun m hm => by rw [e] at hm; cases hm; exact hx) hd
          · rfl
      have e1 : endD L (endsSlash a) (k, 0, 0) = (0, 7, 0) := by
        unfold endD
        rw [if_pos rfl]
        show (match L[k]? with | some n => _ | none => _) = _
        rw [hn]
        exact if_pos hdn
      have hdir : dirD n = false := by cases hx : dirD n <;> simp_all
      have e2 : goD L (thrJ L) true (partsS b) k 0 = (0, 7, 0) := by
        rw [hp]; exact goD_stay (fun m hm => by rw [hn] at hm; cases hm; exact hdir)
      rw [e1]
      refine ⟨fun _ => ?_, fun h => absurd h (show ¬ (7 : Int) = 0 by decide)⟩
      show (endD L (endsSlash b) (goD L (thrJ L) true (partsS b) k 0)).2.1 = 7
      rw [e2]
      rfl
  · rw [if_neg he]
    have e1 : ∀ d, endD L d (k, e, 0) = (k, e, 0) := fun d => by unfold endD; exact if_neg he
    rw [e1, e1]
    exact ⟨fun _ => rfl, fun h => absurd h he⟩
end Go.Proofs.YtehbjabneocflaaDoor
