/- Nodes in memory: a row of seven cells each, the Kids in rows of their own. -/
import Derived.Test.YtehbjabneocflaaDoorBase
import Derived.OneCell
namespace Go.Proofs.YtehbjabneocflaaDoor
open Go.RowKit

structure NodeD where
  kind : Int
  name : ByteArray
  up : Int
  size : Int
  time : Int
  text : ByteArray
  kids : List Nat

theorem Tryd.info44 : (Tryd.prog.info? 44).map (fun i => (i.zero, i.size, i.bytes)) = some (some (.agg #[.int .u8 0, .string ⟨#[]⟩, .int .i64 0, .int .i64 0, .int .i64 0, .string ⟨#[]⟩, .slice none 0 0]), 7, 88) := by kernel_rfl
theorem Tryd.info55 : (Tryd.prog.info? 55).map (fun i => (i.zero, i.size, i.bytes)) = some (some (.agg #[.int .u8 0, .string ⟨#[]⟩, .int .i64 0, .int .i64 0, .int .i64 0, .string ⟨#[]⟩, .slice none 0 0]), 7, 88) := by kernel_rfl
theorem Tryd.info3 : (Tryd.prog.info? 3).map (fun i => (i.zero, i.size, i.bytes)) = some (some (.int .i64 0), 1, 8) := by kernel_rfl
theorem Tryd.info5 : (Tryd.prog.info? 5).map (fun i => (i.zero, i.size, i.bytes)) = some (some (.int .u8 0), 1, 1) := by kernel_rfl

def cells7 (p : NodeD × Value) : List Value := [.int .u8 p.1.kind, .string p.1.name, .int .i64 p.1.up, .int .i64 p.1.size, .int .i64 p.1.time, .string p.1.text, p.2]
def cellsL (l : List (NodeD × Value)) : List Value := l.flatMap cells7
def ints (ks : List Nat) : List Value := ks.map fun (k : Nat) => Value.int .i64 (k : Int)

theorem cells7_length (p : NodeD × Value) : (cells7 p).length = 7 := rfl
theorem cellsL_cons (p : NodeD × Value) (l : List (NodeD × Value)) : cellsL (p :: l) = cells7 p ++ cellsL l := by simp [cellsL]
theorem cellsL_snoc (p : NodeD × Value) (l : List (NodeD × Value)) : cellsL (l ++ [p]) = cellsL l ++ cells7 p := by simp [cellsL]
theorem cellsL_length (l : List (NodeD × Value)) : (cellsL l).length = l.length * 7 := by
  induction l with
  | nil => rfl
  | cons p l ih => rw [cellsL_cons, List.length_append, ih, cells7_length, List.length_cons]; omega
theorem cellsL_get (j : Nat) (hj : j < 7) : ∀ (l : List (NodeD × Value)) (i : Nat) (p : NodeD × Value), l[i]? = some p → (cellsL l)[i * 7 + j]? = (cells7 p)[j]? := by
  intro l
  induction l with
  | nil => intro i p h; simp at h
  | cons q l ih =>
    intro i p h
    rw [cellsL_cons]
    cases i with
    | zero =>
      simp at h; subst h
      rw [List.getElem?_append_left (by rw [cells7_length]; omega)]
      congr 1; omega
    | succ i =>
      rw [List.getElem?_cons_succ] at h
      rw [List.getElem?_append_right (by rw [cells7_length]; omega), cells7_length, show (i + 1) * 7 + j - 7 = i * 7 + j from by omega]
      exact ih i p h
theorem cellsL_set (u : Value) : ∀ (l : List (NodeD × Value)) (i : Nat) (n : NodeD) (kv : Value), l[i]? = some (n, kv) → (cellsL l).set (i * 7 + 6) u = cellsL (l.set i (n, u)) := by
  intro l
  induction l with
  | nil => intro i n kv h; simp at h
  | cons q l ih =>
    intro i n kv h
    cases i with
    | zero =>
      simp at h; subst h
      rw [List.set_cons_zero, cellsL_cons, cellsL_cons, List.set_append_left _ _ (by rw [cells7_length]; omega)]
      rfl
    | succ i =>
      rw [List.getElem?_cons_succ] at h
      rw [List.set_cons_succ, cellsL_cons, cellsL_cons, List.set_append_right _ _ (by rw [cells7_length]; omega), cells7_length, show (i + 1) * 7 + 6 - 7 = i * 7 + 6 from by omega, ih i n kv h]

/-- The seven cells of the i-th node of block g. -/
def NodeAt (W : World) (g i : Nat) (n : NodeD) (kv : Value) : Prop :=
  W.cell? ⟨g, i * 7, none⟩ = some (.int .u8 n.kind) ∧ W.cell? ⟨g, i * 7 + 1, none⟩ = some (.string n.name) ∧ W.cell? ⟨g, i * 7 + 2, none⟩ = some (.int .i64 n.up) ∧
  W.cell? ⟨g, i * 7 + 3, none⟩ = some (.int .i64 n.size) ∧ W.cell? ⟨g, i * 7 + 4, none⟩ = some (.int .i64 n.time) ∧ W.cell? ⟨g, i * 7 + 5, none⟩ = some (.string n.text) ∧ W.cell? ⟨g, i * 7 + 6, none⟩ = some kv

/-- A slice value that holds the numbers ks, in a block below C (or is nil, and there is none). -/
def IntRow (C : Nat) (W : World) (v : Value) (ks : List Nat) : Prop :=
  (v = .slice none 0 0 ∧ ks = []) ∨ ∃ g cap, v = .slice (some ⟨g, 0, none⟩) ks.length cap ∧ g < C ∧ ks.length ≤ cap ∧ ∀ (j k : Nat), ks[j]? = some k → W.cell? ⟨g, j, none⟩ = some (.int .i64 (k : Int))

/-- A slice value that holds the nodes L. -/
def NodeRow (C : Nat) (W : World) (v : Value) (L : List NodeD) : Prop :=
  (v = .slice none 0 0 ∧ L = []) ∨ ∃ g cap, v = .slice (some ⟨g, 0, none⟩) L.length cap ∧ g < C ∧ L.length ≤ cap ∧ ∀ (i : Nat) (n : NodeD), L[i]? = some n → ∃ kv, NodeAt W g i n kv ∧ IntRow C W kv n.kids

theorem IntRow.below {C : Nat} {W W' : World} {v : Value} {ks : List Nat} (h : IntRow C W v ks) (hb : Below C W W') : IntRow C W' v ks := by
  rcases h with h | ⟨g, cap, rfl, hg, hc, hx⟩
  · exact .inl h
  · exact .inr ⟨g, cap, rfl, hg, hc, fun j x hj => (hb.cell (p := ⟨g, j, none⟩) hg).trans (hx j x hj)⟩
theorem NodeAt.below {C g i : Nat} {W W' : World} {n : NodeD} {kv : Value} (h : NodeAt W g i n kv) (hb : Below C W W') (hg : g < C) : NodeAt W' g i n kv := by
  obtain ⟨a, b, c, d, e, f, k⟩ := h
  exact ⟨(hb.cell (p := ⟨g, _, none⟩) hg).trans a, (hb.cell (p := ⟨g, _, none⟩) hg).trans b, (hb.cell (p := ⟨g, _, none⟩) hg).trans c, (hb.cell (p := ⟨g, _, none⟩) hg).trans d, (hb.cell (p := ⟨g, _, none⟩) hg).trans e, (hb.cell (p := ⟨g, _, none⟩) hg).trans f, (hb.cell (p := ⟨g, _, none⟩) hg).trans k⟩
theorem NodeRow.below {C : Nat} {W W' : World} {v : Value} {L : List NodeD} (h : NodeRow C W v L) (hb : Below C W W') : NodeRow C W' v L := by
  rcases h with h | ⟨g, cap, rfl, hg, hc, hx⟩
  · exact .inl h
  · refine .inr ⟨g, cap, rfl, hg, hc, fun i n hi => ?_⟩
    obtain ⟨kv, h1, h2⟩ := hx i n hi
    exact ⟨kv, h1.below hb hg, h2.below hb⟩
theorem IntRow.of_owns {B : Nat} {W : World} {v : Value} {ks : List Nat} (h : W.ownsRow B 3 1 v ks.length (ints ks)) : IntRow W.heap.size W v ks := by
  rcases h.2 with ⟨rfl, h2⟩ | ⟨g, cap, cur, rfl, hb, hg, hn, _, hs, ht⟩
  · exact .inl ⟨rfl, List.eq_nil_of_length_eq_zero h2⟩
  · refine .inr ⟨g, cap, rfl, (Array.getElem?_eq_some_iff.1 hg).1, hn, fun j x hj => ?_⟩
    have hj' : j < ks.length := (List.getElem?_eq_some_iff.1 hj).1
    have e1 : (cur.toList.take (ks.length * 1))[j]? = some (.int .i64 (x : Int)) := by rw [ht]; unfold ints; rw [List.getElem?_map, hj]; rfl
    rw [List.getElem?_take_of_lt (by omega)] at e1
    simp only [World.cell?, hg]
    simpa using e1

/-- Nodes of a row of the call's own, and their Kids in rows of its own. -/
def Owned (t B : Nat) (W : World) (v : Value) (l : List (NodeD × Value)) : Prop :=
  W.ownsRow B t 7 v l.length (cellsL l) ∧ ∀ p ∈ l, W.ownsRow B 3 1 p.2 p.1.kids.length (ints p.1.kids)

theorem row_cell {t B n : Nat} {W : World} {v : Value} {xs : List Value} (h : W.ownsRow B t 7 v n xs) {g cap : Nat} (e : v = .slice (some ⟨g, 0, none⟩) n cap) {i : Nat} {u : Value} (hi : xs[i]? = some u) : W.cell? ⟨g, i, none⟩ = some u := by
  subst e
  rcases h.2 with ⟨e, _⟩ | ⟨g', cap', cur, e, _, hg, _, _, hs, ht⟩
  · cases e
  · cases e
    have hlt : i < n * 7 := by
      have := (List.getElem?_eq_some_iff.1 hi).1
      rw [h.1] at this; exact this
    rw [← ht, List.getElem?_take_of_lt hlt] at hi
    simp only [World.cell?, hg]
    simpa using hi
theorem Owned.node {t B : Nat} {W : World} {v : Value} {l : List (NodeD × Value)} (h : Owned t B W v l) {g cap : Nat} (e : v = .slice (some ⟨g, 0, none⟩) l.length cap) {i : Nat} {p : NodeD × Value} (hi : l[i]? = some p) : NodeAt W g i p.1 p.2 := by
  have c : ∀ j (hj : j < 7) u, (cells7 p)[j]? = some u → W.cell? ⟨g, i * 7 + j, none⟩ = some u := fun j hj u hu =>
    row_cell h.1 e ((cellsL_get j hj l i p hi).trans hu)
  exact ⟨c 0 (by omega) _ rfl, c 1 (by omega) _ rfl, c 2 (by omega) _ rfl, c 3 (by omega) _ rfl, c 4 (by omega) _ rfl, c 5 (by omega) _ rfl, c 6 (by omega) _ rfl⟩
theorem Owned.row {t B : Nat} {W : World} {v : Value} {l : List (NodeD × Value)} (h : Owned t B W v l) : NodeRow W.heap.size W v (l.map (·.1)) := by
  rcases h.1.2 with ⟨rfl, h2⟩ | ⟨g, cap, cur, rfl, hb, hg, hn, _, hs, ht⟩
  · refine .inl ⟨rfl, ?_⟩
    rw [List.eq_nil_of_length_eq_zero h2]; rfl
  · refine .inr ⟨g, cap, by rw [List.length_map], (Array.getElem?_eq_some_iff.1 hg).1, by rw [List.length_map]; exact hn, fun i n hi => ?_⟩
    rw [List.getElem?_map] at hi
    cases hp : l[i]? with
    | none => rw [hp] at hi; cases hi
    | some p =>
      rw [hp] at hi
      cases hi
      exact ⟨p.2, h.node rfl hp, IntRow.of_owns (h.2 p (List.mem_of_getElem? hp))⟩
end Go.Proofs.YtehbjabneocflaaDoor
