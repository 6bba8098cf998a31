/- An Expr that the row reads, as the walks want it; the listed table; a world for the witness. -/
import Derived.Test.YtfdnhkhcjgenmaaDoorARefO
import Derived.Test.YtfdnhkhcjgenmaaDoorCards
import Derived.Deep.Slices
import Derived.Deep.Strs
import Derived.Carry
import Derived.Lib.LaidTab
namespace Go.Proofs.YtfdnhkhcjgenmaaDoor
open Go.RowKit Go.Maps Go.ChangeShapes Go.Deep

instance : Inhabited ExprD := ⟨.mk 0 [] []⟩
theorem Tryd.cellsX24 : Tryd.prog.cellsOf 24 = 3 := by kernel_rfl
theorem Tryd.cellsX22 : Tryd.prog.cellsOf 22 = 1 := by kernel_rfl
theorem Tryd.cellsX9 : Tryd.prog.cellsOf 9 = 1 := by kernel_rfl
theorem Tryd.cellsX3 : Tryd.prog.cellsOf 3 = 1 := by kernel_rfl
theorem bulk_mem {H : Type} (D : Nat → DataW H) : ∀ (l : List Nat) (i : Nat), i ∈ l → Rows.uptoBulk (D i) ≤ Rows.uptoBulkAll (l.map D) := by
  intro l
  induction l with
  | nil => intro i h; cases h
  | cons x r ih =>
    intro i h
    rw [List.map_cons, Rows.uptoBulkAll]
    rcases List.mem_cons.1 h with rfl | h
    · omega
    · have := ih i h; omega
theorem nodes_bulk {H : Type} (D : Nat → DataW H) (E : Nat → ExprD) : ∀ (l : List Nat), (∀ i ∈ l, nodes (E i) ≤ Rows.uptoBulk (D i)) → nodesL (l.map E) ≤ Rows.uptoBulkAll (l.map D) := by
  intro l
  induction l with
  | nil => intro _; rw [List.map_nil, nodesL]; omega
  | cons x r ih =>
    intro h
    rw [List.map_cons, List.map_cons, nodesL, Rows.uptoBulkAll]
    have h1 := h x (by simp)
    have h2 := ih (fun i hi => h i (by simp [hi]))
    omega
theorem cell_lt {W : World} {p : Addr} {v : Value} (h : W.cell? p = some v) : p.block < W.heap.size := by
  by_cases hlt : p.block < W.heap.size
  · exact hlt
  · unfold World.cell? at h
    rw [Array.getElem?_eq_none (by omega)] at h
    cases h
theorem three_of {cs : List Value} (h : cs.length = 3) : ∃ a b c, cs = [a, b, c] := by
  match cs, h with
  | [a, b, c], _ => exact ⟨a, b, c, rfl⟩
theorem read_expr {H : Type} (enc : TypeId × Value → H) (W : World) : ∀ (N fuel : Nat) (cs : List Value) (d : DataW H) (ps : List MemPlace), Rows.uptoBulk d ≤ N → N ≤ 1048576 → DataW.trod enc Tryd.prog W 0 (fun _ => true) true fuel 24 cs = some (d, ps) →
    ∃ (op : Int) (s : ByteArray) (v : Value) (ks : List ExprD), cs = [.int .i64 op, .string s, v] ∧ s.size ≤ 1000000000 ∧ KRd W.heap.size W v ks ∧ nodes (.mk op s.data.toList ks) ≤ Rows.uptoBulk d := by
  intro N
  induction N with
  | zero =>
    intro fuel cs d ps hd _ h
    obtain ⟨y0, y1, y2, n, hx, hl, h0, h1, h2⟩ := trod_struct3 Tryd.underlying24 h
    cases hx
    rw [Rows.uptoBulk] at hd
    omega
  | succ N ih =>
    intro fuel cs d ps hd hN h
    obtain ⟨y0, y1, y2, n, hx, hl, h0, h1, h2⟩ := trod_struct3 Tryd.underlying24 h
    rw [Tryd.cellsX24] at hl
    obtain ⟨c0, c1, c2, rfl⟩ : ∃ a b c, cs = [a, b, c] := three_of hl
    simp only [Tryd.cellsX3, Tryd.cellsX9, Tryd.cellsX22] at h0 h1 h2
    obtain ⟨op, e0, rfl, _⟩ := DataW.trod_int Tryd.underlying3 h0
    obtain ⟨s, e1, rfl, _⟩ := DataW.trod_string Tryd.underlying9 h1
    have e0' : c0 = .int .i64 op := by simpa using e0
    have e1' : c1 = .string s := by simpa using e1
    subst e0' e1'
    cases hx
    have hsl : s.data.toList.length = s.size := by rw [Array.length_toList]; rfl
    simp only [Rows.uptoBulk, Rows.uptoBulkAll] at hd
    rcases open_slice Tryd.underlying22 h2 with ⟨e2, rfl⟩ | ⟨a, len, cap, m, n2, D, Pl, e2, _, hlc, _, hm, rfl, hel⟩
    · have e2' : c2 = .slice none 0 0 := by simpa using e2
      subst e2'
      refine ⟨op, s, _, [], rfl, by omega, .inl ⟨rfl, rfl⟩, ?_⟩
      rw [nodes, nodesL]
      simp only [Rows.uptoBulk, Rows.uptoBulkAll]
      omega
    · have e2' : c2 = .slice (some a) len cap := by simpa using e2
      subst e2'
      simp only [Rows.uptoBulk] at hd
      have hlm : len ≤ m := by rw [hm]; simp; omega
      obtain ⟨E, hE⟩ := choose_lt (α := ExprD) (n := len) (p := fun i e => ERd W.heap.size W (a.add (i * 3)) e ∧ nodes e ≤ Rows.uptoBulk (D i)) (fun i hi => by
        obtain ⟨cs', h3, h4⟩ := hel i (by omega)
        rw [Tryd.cellsX24] at h3
        have hb := bulk_mem D (List.range len) i (by simpa using hi)
        obtain ⟨op', s', v', ks', rfl, hs', hk', hn'⟩ := ih n2 cs' (D i) (Pl i) (by omega) (by omega) h4
        obtain ⟨_, _, hc⟩ := World.cells?_some h3
        have q0 := hc 0 (by omega)
        have q1 := hc 1 (by omega)
        have q2 := hc 2 (by omega)
        have a0 : (a.add (i * 3)).add 0 = a.add (i * 3) := by simp [Addr.add]
        rw [a0] at q0
        refine ⟨.mk op' s'.data.toList ks', ?_, hn'⟩
        rcases hk' with ⟨rfl, rfl⟩ | ⟨gk, ck, rfl, hck, hkk⟩
        · exact .nil _ op' s' (cell_lt q0) q0 q1 q2 hs'
        · exact .row _ op' s' gk ck ks' (cell_lt q0) q0 q1 q2 hs' hck hkk)
      have hll : ((List.range len).map E).length = len := by simp
      refine ⟨op, s, _, (List.range len).map E, rfl, by omega, .inr ⟨a, cap, by rw [hll], by rw [hll]; exact hlc, fun i k hi => ?_⟩, ?_⟩
      · have hil := (List.getElem?_eq_some_iff.1 hi).1
        rw [hll] at hil
        rw [List.getElem?_map, List.getElem?_range hil] at hi
        cases hi
        exact (hE i hil).1
      · rw [nodes]
        have := nodes_bulk D E (List.range len) (fun i hi => (hE i (by simpa using hi)).2)
        simp only [Rows.uptoBulk, Rows.uptoBulkAll]
        omega
end Go.Proofs.YtfdnhkhcjgenmaaDoor
