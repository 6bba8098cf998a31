/- The law ExprActs; a Test that the row reads, as the walks want it. -/
import Derived.Test.YtaokjoiklcikjaaEaD
import Derived.Deep.Slices
import Derived.Deep.Strs
import Derived.Carry
namespace Go.Proofs.Ytaokjoiklcikjaa
open Go.RowKit Go.Maps Go.ChangeShapes Go.Deep

set_option maxRecDepth 100000 in
set_option maxHeartbeats 4000000 in
theorem law_any (op tx : ByteArray) (nu sg : Int) (v : Value) (ks : List TestD) (w : World) (hk : KRd w.heap.size w v ks) (hn : nodes (.mk op tx nu sg ks) ≤ 100000000) :
    Calls Try.prog 3 #[.agg #[.string op, .string tx, .int .i64 nu, .int .i64 sg, v]] w fun e w' => e = .returned (.bool true) ∧ Below w.heap.size w w' := by
  obtain ⟨p, c, rfl⟩ := kids_shape hk
  have hb0 := tbox 24 w op tx nu sg (.slice p ks.length c)
  have hal : Below w.heap.size w (w.alloc (.cells #[.string op, .string tx, .int .i64 nu, .int .i64 sg, .slice p ks.length c] 24)) := (Below.refl _ _).alloc (Nat.le_refl _) _
  obtain ⟨W1, hW1⟩ : ∃ W1, w.alloc (.cells #[.string op, .string tx, .int .i64 nu, .int .i64 sg, .slice p ks.length c] 24) = W1 := ⟨_, rfl⟩
  have hs1 : W1.heap.size = w.heap.size + 1 := by rw [← hW1, World.size_alloc]
  rw [hW1] at hb0 hal
  have hex := test_all _ (.mk op tx nu sg ks) (Nat.le_refl _) hn w.heap.size op tx nu sg ks _ W1 rfl (hk.below hal) hal.size
  obtain ⟨b0, b1, b2, b3, b4, _⟩ := hb0.cells
  have HK := hide hk
  have HAL := hide hal
  have HB0 := hide hb0
  have HS1 := hide hs1
  clear hk hal hb0 hs1
  go_enter Try.func3, Try.ntmps3
  go_wp2_with first
    | (go_at_call 5; refine hex.mono ?_; rintro e w2 ⟨v2, rfl, hkin, hb2⟩; obtain ⟨pa, pc, hpv⟩ := kin_shape hkin; subst hpv; have hma := acts_any op tx nu sg ks _ w2 (hkin.keep (fun k hk => hk.2) (fun k _ => rfl)) hn)
    | (go_at_call 4; refine hma.mono ?_; rintro e w3 ⟨rfl, hb3⟩; have hb13 : Below W1.heap.size W1 w3 := (hb2.trans (hb3.mono hb2.size)); have hE3 : TBox 24 w3 w.heap.size op tx nu sg (.slice p ks.length c) := ((hb13.block _ (by have := HS1.out; omega)).trans HB0.out); obtain ⟨d0, d1, d2, d3, d4, _⟩ := hE3.cells; have hb03 : Below w.heap.size w w3 := (HAL.out.trans (hb13.mono HAL.out.size)); have hrm := racts_all _ (.mk op tx nu sg ks) (Nat.le_refl _) hn w3.heap.size op tx nu sg ks _ w3 rfl ((HK.out.below hb03).wide hb03.size) (Nat.le_refl _))
    | (go_at_call 6; refine hrm.mono ?_; rintro e w4 ⟨rfl, hb4⟩)
  go_ret
  exact ⟨by simp, hb03.trans (hb4.mono hb03.size)⟩
theorem Try.cellsX24 : Try.prog.cellsOf 24 = 5 := by kernel_rfl
theorem Try.cellsX22 : Try.prog.cellsOf 22 = 1 := by kernel_rfl
theorem Try.cellsX9 : Try.prog.cellsOf 9 = 1 := by kernel_rfl
theorem Try.cellsX3 : Try.prog.cellsOf 3 = 1 := by kernel_rfl
theorem trod_struct5 {H : Type} {enc : TypeId × Value → H} {P : Program} {w : World} {base : Nat} {spare : Nat → Bool} {held : Bool} {t : TypeId} {f0 f1 f2 f3 f4 : Field} {fuel : Nat} {cs : List Value} {x : DataW H × List MemPlace} (ht : P.underlying t = some (.struct #[f0, f1, f2, f3, f4])) (h : DataW.trod enc P w base spare held fuel t cs = some x) :
    ∃ y0 y1 y2 y3 y4 n, x = (.agg [y0.1, y1.1, y2.1, y3.1, y4.1], y0.2 ++ (y1.2 ++ (y2.2 ++ (y3.2 ++ y4.2)))) ∧ cs.length = P.cellsOf t ∧ DataW.trod enc P w base spare held n f0.type ((cs.drop f0.offset).take (P.cellsOf f0.type)) = some y0 ∧
      DataW.trod enc P w base spare held n f1.type ((cs.drop f1.offset).take (P.cellsOf f1.type)) = some y1 ∧ DataW.trod enc P w base spare held n f2.type ((cs.drop f2.offset).take (P.cellsOf f2.type)) = some y2 ∧ DataW.trod enc P w base spare held n f3.type ((cs.drop f3.offset).take (P.cellsOf f3.type)) = some y3 ∧ DataW.trod enc P w base spare held n f4.type ((cs.drop f4.offset).take (P.cellsOf f4.type)) = some y4 := by
  obtain ⟨xs, n, _, rfl, hl, hlen, hf⟩ := DataW.trod_struct ht h
  match xs, hlen with
  | [y0, y1, y2, y3, y4], _ => exact ⟨y0, y1, y2, y3, y4, n, by simp, hl, by simpa using hf 0 f0 rfl, by simpa using hf 1 f1 rfl, by simpa using hf 2 f2 rfl, by simpa using hf 3 f3 rfl, by simpa using hf 4 f4 rfl⟩
theorem bulk_mem {H : Type} (D : Nat → DataW H) : ∀ (l : List Nat) (i : Nat), i ∈ l → Rows.uptoBulk (D i) ≤ Rows.uptoBulkAll (l.map D) := by
  intro l
  induction l with
  | nil => intro i h; cases h
  | cons x r ih =>
    intro i h
    rw [List.map_cons, Rows.uptoBulkAll]
    rcases List.mem_cons.1 h with rfl | h
    · omega
    · have := ih i h; omega
theorem nodes_bulk {H : Type} (D : Nat → DataW H) (E : Nat → TestD) : ∀ (l : List Nat), (∀ i ∈ l, nodes (E i) ≤ Rows.uptoBulk (D i)) → nodesL (l.map E) ≤ Rows.uptoBulkAll (l.map D) := by
  intro l
  induction l with
  | nil => intro _; rw [List.map_nil, nodesL]; omega
  | cons x r ih =>
    intro h
    rw [List.map_cons, List.map_cons, nodesL, Rows.uptoBulkAll]
    have h1 := h x (by simp)
    have h2 := ih (fun i hi => h i (by simp [hi]))
    omega
theorem cell_lt {W : World} {p : Addr} {v : Value} (h : W.cell? p = some v) : p.block < W.heap.size := by
  by_cases hlt : p.block < W.heap.size
  · exact hlt
  · unfold World.cell? at h
    rw [Array.getElem?_eq_none (by omega)] at h
    cases h
theorem five_of {cs : List Value} (h : cs.length = 5) : ∃ a b c d e, cs = [a, b, c, d, e] := by
  match cs, h with
  | [a, b, c, d, e], _ => exact ⟨a, b, c, d, e, rfl⟩
theorem read_test {H : Type} (enc : TypeId × Value → H) (W : World) : ∀ (N fuel : Nat) (cs : List Value) (d : DataW H) (ps : List MemPlace), Rows.uptoBulk d ≤ N → N ≤ 1048576 → DataW.trod enc Try.prog W 0 (fun _ => true) true fuel 24 cs = some (d, ps) →
    ∃ (op tx : ByteArray) (nu sg : Int) (v : Value) (ks : List TestD), cs = [.string op, .string tx, .int .i64 nu, .int .i64 sg, v] ∧ KRd W.heap.size W v ks ∧ nodes (.mk op tx nu sg ks) ≤ Rows.uptoBulk d := by
  intro N
  induction N with
  | zero =>
    intro fuel cs d ps hd _ h
    obtain ⟨y0, y1, y2, y3, y4, n, hx, hl, h0, h1, h2, h3, h4⟩ := trod_struct5 Try.underlying24 h
    cases hx
    rw [Rows.uptoBulk] at hd
    omega
  | succ N ih =>
    intro fuel cs d ps hd hN h
    obtain ⟨y0, y1, y2, y3, y4, n, hx, hl, h0, h1, h2, h3, h4⟩ := trod_struct5 Try.underlying24 h
    rw [Try.cellsX24] at hl
    obtain ⟨c0, c1, c2, c3, c4, rfl⟩ := five_of hl
    simp only [Try.cellsX3, Try.cellsX9, Try.cellsX22] at h0 h1 h2 h3 h4
    obtain ⟨op, e0, rfl, _⟩ := DataW.trod_string Try.underlying9 h0
    obtain ⟨tx, e1, rfl, _⟩ := DataW.trod_string Try.underlying9 h1
    obtain ⟨nu, e2, rfl, _⟩ := DataW.trod_int Try.underlying3 h2
    obtain ⟨sg, e3, rfl, _⟩ := DataW.trod_int Try.underlying3 h3
    have e0' : c0 = .string op := by simpa using e0
    have e1' : c1 = .string tx := by simpa using e1
    have e2' : c2 = .int .i64 nu := by simpa using e2
    have e3' : c3 = .int .i64 sg := by simpa using e3
    subst e0' e1' e2' e3'
    cases hx
    simp only [Rows.uptoBulk, Rows.uptoBulkAll] at hd
    rcases open_slice Try.underlying22 h4 with ⟨e4, rfl⟩ | ⟨a, len, cap, m, n2, D, Pl, e4, _, hlc, _, hm, rfl, hel⟩
    · have e4' : c4 = .slice none 0 0 := by simpa using e4
      subst e4'
      refine ⟨op, tx, nu, sg, _, [], rfl, .inl ⟨rfl, rfl⟩, ?_⟩
      rw [nodes, nodesL]
      simp only [Rows.uptoBulk, Rows.uptoBulkAll]
      omega
    · have e4' : c4 = .slice (some a) len cap := by simpa using e4
      subst e4'
      simp only [Rows.uptoBulk] at hd
      have hlm : len ≤ m := by rw [hm]; simp; omega
      obtain ⟨E, hE⟩ := choose_lt (α := TestD) (n := len) (p := fun i e => ERd W.heap.size W (a.add (i * 5)) e ∧ nodes e ≤ Rows.uptoBulk (D i)) (fun i hi => by
        obtain ⟨cs', h3, h4⟩ := hel i (by omega)
        rw [Try.cellsX24] at h3
        have hb := bulk_mem D (List.range len) i (by simpa using hi)
        obtain ⟨op', tx', nu', sg', v', ks', rfl, hk', hn'⟩ := ih n2 cs' (D i) (Pl i) (by omega) (by omega) h4
        obtain ⟨_, _, hc⟩ := World.cells?_some h3
        have q0 := hc 0 (by omega)
        have q1 := hc 1 (by omega)
        have q2 := hc 2 (by omega)
        have q3 := hc 3 (by omega)
        have q4 := hc 4 (by omega)
        have a0 : (a.add (i * 5)).add 0 = a.add (i * 5) := by simp [Addr.add]
        rw [a0] at q0
        refine ⟨.mk op' tx' nu' sg' ks', ?_, hn'⟩
        rcases hk' with ⟨rfl, rfl⟩ | ⟨gk, ck, rfl, hck, hkk⟩
        · exact .nil _ op' tx' nu' sg' (cell_lt q0) q0 q1 q2 q3 q4
        · exact .row _ op' tx' nu' sg' gk ck ks' (cell_lt q0) q0 q1 q2 q3 q4 hck hkk)
      have hll : ((List.range len).map E).length = len := by simp
      refine ⟨op, tx, nu, sg, _, (List.range len).map E, rfl, .inr ⟨a, cap, by rw [hll], by rw [hll]; exact hlc, fun i k hi => ?_⟩, ?_⟩
      · have hil := (List.getElem?_eq_some_iff.1 hi).1
        rw [hll] at hil
        rw [List.getElem?_map, List.getElem?_range hil] at hi
        cases hi
        exact (hE i hil).1
      · rw [nodes]
        have := nodes_bulk D E (List.range len) (fun i hi => (hE i (by simpa using hi)).2)
        simp only [Rows.uptoBulk, Rows.uptoBulkAll]
        omega
end Go.Proofs.Ytaokjoiklcikjaa
