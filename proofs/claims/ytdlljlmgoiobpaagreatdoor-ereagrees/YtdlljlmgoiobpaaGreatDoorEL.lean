/- Merged: ErL, ErM, ErN. -/
import Derived.Test.YtdlljlmgoiobpaaGreatDoorEH
import Derived.Test.YtdlljlmgoiobpaaGreatDoorAMatch
import Derived.Laws.CopyRow
/- Parts in memory; a part that may be left out. -/
namespace Go.Proofs.YtdlljlmgoiobpaaGreatDoor
open Go.RowKit Go.Maps
theorem FrE.cell {b g j : Nat} {W W' : World} (hf : FrE b W W') (hg : g < W.heap.size) (hb : g ≠ b) : W'.cell? ⟨g, j, none⟩ = W.cell? ⟨g, j, none⟩ := by
  simp only [World.cell?, hf.block g hg hb]
/-- A block that holds a row of Exprs. -/
def Ty24 (W : World) (g : Nat) : Prop := ∃ a y, W.heap[g]? = some (.cells a 24 y)
theorem Ty24.lt {W : World} {g : Nat} (h : Ty24 W g) : g < W.heap.size := by
  obtain ⟨a, y, h⟩ := h
  exact (Array.getElem?_eq_some_iff.1 h).1
theorem Ty24.keep {b g : Nat} {W W' : World} (h : Ty24 W g) (hf : FrE b W W') (hb : g ≠ b) : Ty24 W' g := by
  have hl := h.lt
  obtain ⟨a, y, h⟩ := h
  exact ⟨a, y, (hf.block g hl hb).trans h⟩
theorem Ty24.ne {g x t : Nat} {W : World} {a : Array Value} {y : Nat × Nat} (h : Ty24 W g) (hx : W.heap[x]? = some (.cells a t y)) (ht : t ≠ 24) : g ≠ x := by
  rintro rfl
  obtain ⟨a', y', h⟩ := h
  rw [hx] at h
  injection h with h
  injection h with _ h _
  exact ht h
/-- An Expr in memory, away from the reader. -/
inductive ExE (b : Nat) (W : World) : Nat → Nat → ExprD → Prop
  | nil (g o : Nat) (op : Int) (st : ByteArray) (hg : Ty24 W g) (hb : b < g) (h0 : W.cell? ⟨g, o, none⟩ = some (.int .i64 op)) (h1 : W.cell? ⟨g, o + 1, none⟩ = some (.string st)) (h2 : W.cell? ⟨g, o + 2, none⟩ = some (.slice none 0 0)) (hs : st.size ≤ 1000000000) : ExE b W g o (.mk op st.data.toList [])
  | row (g o : Nat) (op : Int) (st : ByteArray) (gk ck : Nat) (ks : List ExprD) (hg : Ty24 W g) (hb : b < g) (h0 : W.cell? ⟨g, o, none⟩ = some (.int .i64 op)) (h1 : W.cell? ⟨g, o + 1, none⟩ = some (.string st)) (h2 : W.cell? ⟨g, o + 2, none⟩ = some (.slice (some ⟨gk, 0, none⟩) ks.length ck)) (hs : st.size ≤ 1000000000) (hck : ks.length ≤ ck)
      (hk : ∀ (i : Nat) (k : ExprD), ks[i]? = some k → ExE b W gk (i * 3) k) : ExE b W g o (.mk op st.data.toList ks)
theorem ExE.keep {b : Nat} {W W' : World} (hf : FrE b W W') {g o : Nat} {e : ExprD} (h : ExE b W g o e) : ExE b W' g o e := by
  induction h with
  | nil g o op st hg hb h0 h1 h2 hs => exact .nil g o op st (hg.keep hf (Nat.ne_of_gt hb)) hb ((hf.cell hg.lt (Nat.ne_of_gt hb)).trans h0) ((hf.cell hg.lt (Nat.ne_of_gt hb)).trans h1) ((hf.cell hg.lt (Nat.ne_of_gt hb)).trans h2) hs
  | row g o op st gk ck ks hg hb h0 h1 h2 hs hck _ ih => exact .row g o op st gk ck ks (hg.keep hf (Nat.ne_of_gt hb)) hb ((hf.cell hg.lt (Nat.ne_of_gt hb)).trans h0) ((hf.cell hg.lt (Nat.ne_of_gt hb)).trans h1) ((hf.cell hg.lt (Nat.ne_of_gt hb)).trans h2) hs hck ih
theorem ExE.at_ {b : Nat} {W : World} {g o : Nat} {e : ExprD} (h : ExE b W g o e) : ExprAt W.heap.size W g o e := by
  induction h with
  | nil g o op st hg hb h0 h1 h2 hs => exact .nil g o op st hg.lt h0 h1 h2 hs
  | row g o op st gk ck ks hg hb h0 h1 h2 hs hck _ ih => exact .row g o op st gk ck ks hg.lt h0 h1 h2 hs hck ih
theorem ExE.own {b x t : Nat} {W W' : World} {a : Array Value} {y : Nat × Nat} (hx : W.heap[x]? = some (.cells a t y)) (ht : t ≠ 24) (hf : FrE x W W') {g o : Nat} {e : ExprD} (h : ExE b W g o e) : ExE b W' g o e := by
  induction h with
  | nil g o op st hg hb h0 h1 h2 hs => exact .nil g o op st (hg.keep hf (hg.ne hx ht)) hb ((hf.cell hg.lt (hg.ne hx ht)).trans h0) ((hf.cell hg.lt (hg.ne hx ht)).trans h1) ((hf.cell hg.lt (hg.ne hx ht)).trans h2) hs
  | row g o op st gk ck ks hg hb h0 h1 h2 hs hck _ ih => exact .row g o op st gk ck ks (hg.keep hf (hg.ne hx ht)) hb ((hf.cell hg.lt (hg.ne hx ht)).trans h0) ((hf.cell hg.lt (hg.ne hx ht)).trans h1) ((hf.cell hg.lt (hg.ne hx ht)).trans h2) hs hck ih
theorem ExE.low {b x : Nat} {W W' : World} (hx : x ≤ b) (hf : FrE x W W') {g o : Nat} {e : ExprD} (h : ExE b W g o e) : ExE b W' g o e := by
  induction h with
  | nil g o op st hg hb h0 h1 h2 hs => exact .nil g o op st (hg.keep hf (by omega)) hb ((hf.cell hg.lt (by omega)).trans h0) ((hf.cell hg.lt (by omega)).trans h1) ((hf.cell hg.lt (by omega)).trans h2) hs
  | row g o op st gk ck ks hg hb h0 h1 h2 hs hck _ ih => exact .row g o op st gk ck ks (hg.keep hf (by omega)) hb ((hf.cell hg.lt (by omega)).trans h0) ((hf.cell hg.lt (by omega)).trans h1) ((hf.cell hg.lt (by omega)).trans h2) hs hck ih
/-- The Kids of one. -/
def KidE (b : Nat) (W : World) (ka : Option Addr) (m c : Nat) (ks : List ExprD) : Prop := (ka = none ∧ m = 0 ∧ c = 0 ∧ ks = []) ∨ ∃ gk, ka = some ⟨gk, 0, none⟩ ∧ m = ks.length ∧ ks.length ≤ c ∧ ∀ (i : Nat) (k : ExprD), ks[i]? = some k → ExE b W gk (i * 3) k
theorem KidE.keep {b : Nat} {W W' : World} {ka : Option Addr} {m c : Nat} {ks : List ExprD} (h : KidE b W ka m c ks) (hf : FrE b W W') : KidE b W' ka m c ks := by
  rcases h with h | ⟨gk, h1, h2, h3, h4⟩
  · exact .inl h
  · exact .inr ⟨gk, h1, h2, h3, fun i k hk => (h4 i k hk).keep hf⟩
theorem KidE.low {b x : Nat} {W W' : World} {ka : Option Addr} {m c : Nat} {ks : List ExprD} (h : KidE b W ka m c ks) (hx : x ≤ b) (hf : FrE x W W') : KidE b W' ka m c ks := by
  rcases h with h | ⟨gk, h1, h2, h3, h4⟩
  · exact .inl h
  · exact .inr ⟨gk, h1, h2, h3, fun i k hk => (h4 i k hk).low hx hf⟩
theorem KidE.own {b x t : Nat} {W W' : World} {a : Array Value} {y : Nat × Nat} {ka : Option Addr} {m c : Nat} {ks : List ExprD} (h : KidE b W ka m c ks) (hx : W.heap[x]? = some (.cells a t y)) (ht : t ≠ 24) (hf : FrE x W W') : KidE b W' ka m c ks := by
  rcases h with h | ⟨gk, h1, h2, h3, h4⟩
  · exact .inl h
  · exact .inr ⟨gk, h1, h2, h3, fun i k hk => (h4 i k hk).own hx ht hf⟩
theorem KidE.at_ {b : Nat} {W : World} {ka : Option Addr} {m c : Nat} {ks : List ExprD} (h : KidE b W ka m c ks) : KidsAt W.heap.size W (.slice ka m c) ks := by
  rcases h with ⟨rfl, rfl, rfl, rfl⟩ | ⟨gk, rfl, rfl, h3, h4⟩
  · exact .inl ⟨rfl, rfl⟩
  · exact .inr ⟨gk, c, rfl, h3, fun i k hk => (h4 i k hk).at_⟩
theorem ExE.of {b : Nat} {W : World} {g o : Nat} {op : Int} {st : ByteArray} {ka : Option Addr} {m c : Nat} {ks : List ExprD} (hg : Ty24 W g) (hb : b < g) (h0 : W.cell? ⟨g, o, none⟩ = some (.int .i64 op)) (h1 : W.cell? ⟨g, o + 1, none⟩ = some (.string st)) (h2 : W.cell? ⟨g, o + 2, none⟩ = some (.slice ka m c)) (hs : st.size ≤ 1000000000) (hk : KidE b W ka m c ks) : ExE b W g o (.mk op st.data.toList ks) := by
  rcases hk with ⟨rfl, rfl, rfl, rfl⟩ | ⟨gk, rfl, rfl, h3, h4⟩
  · exact .nil g o op st hg hb h0 h1 h2 hs
  · exact .row g o op st gk c ks hg hb h0 h1 h2 hs h3 h4
def optB (W : World) (g : Nat) (op : Int) (st : ByteArray) (ka : Option Addr) (m c : Nat) : Prop := W.heap[g]? = some (.cells #[.int .i64 1, .string ⟨#[]⟩, .slice none 0 0, .int .i64 op, .string st, .slice ka m c] 24 (0, 0))
theorem opt_kids {b g : Nat} {W : World} {op : Int} {st : ByteArray} {ka : Option Addr} {m c : Nat} {ks : List ExprD} (hR : optB W g op st ka m c) (hgb : b < g) (hst : st.size ≤ 1000000000) (hk : KidE b W ka m c ks) : KidE b W (some ⟨g, 0, none⟩) 2 2 [.mk 1 [] [], .mk op st.data.toList ks] := by
  unfold optB at hR
  have hg : Ty24 W g := ⟨_, _, hR⟩
  refine .inr ⟨g, rfl, rfl, by simp, fun i k hi => ?_⟩
  match i, hi with
  | 0, hi =>
    cases hi
    exact ExE.of (st := ⟨#[]⟩) hg hgb (by simp only [World.cell?, hR]; rfl) (by simp only [World.cell?, hR]; rfl) (by simp only [World.cell?, hR]; rfl) (by decide) (.inl ⟨rfl, rfl, rfl, rfl⟩)
  | 1, hi =>
    cases hi
    exact ExE.of hg hgb (by simp only [World.cell?, hR]; rfl) (by simp only [World.cell?, hR]; rfl) (by simp only [World.cell?, hR]; rfl) hst hk
set_option maxRecDepth 100000 in
set_option maxHeartbeats 1000000 in
theorem option_any (op : Int) (st : ByteArray) (ka : Option Addr) (m c : Nat) (n : Int) (w : World) :
    Calls Tryz.prog 65 #[partV op st ka m c n] w fun e w' => ∃ g, e = .returned (.agg #[.int .i64 4, .string ⟨#[]⟩, .slice (some ⟨g, 0, none⟩) 2 2]) ∧ w.heap.size ≤ g ∧ optB w' g op st ka m c ∧ ∀ x, FrE x w w' := by
  unfold partV
  go_enter Tryz.func65, Tryz.ntmps65
  go_wp2
  obtain ⟨W, hW⟩ : ∃ W, ((w.alloc (.cells #[.int .i64 op, .string st, .slice ka m c, .int .i64 n] 42)).alloc (.cells #[.int .i64 4, .string ⟨#[]⟩, .slice (some ⟨w.heap.size + 1 + 1, 0, none⟩) 2 2] 24)).alloc (.cells #[.int .i64 1, .string ⟨#[]⟩, .slice none 0 0, .int .i64 op, .string st, .slice ka m c] 24) = W := ⟨_, rfl⟩
  rw [hW]
  have hf : ∀ x, FrE x w W := by intro x; rw [← hW]; exact ((FrE.alloc x _ _).trans (FrE.alloc x _ _)).trans (FrE.alloc x _ _)
  have hR : W.heap[w.heap.size + 1 + 1]? = some (.cells #[.int .i64 1, .string ⟨#[]⟩, .slice none 0 0, .int .i64 op, .string st, .slice ka m c] 24 (0, 0)) := by
    rw [← hW]
    have := World.alloc_heap_new ((w.alloc (.cells #[.int .i64 op, .string st, .slice ka m c, .int .i64 n] 42)).alloc (.cells #[.int .i64 4, .string ⟨#[]⟩, .slice (some ⟨w.heap.size + 1 + 1, 0, none⟩) 2 2] 24)) (.cells #[.int .i64 1, .string ⟨#[]⟩, .slice none 0 0, .int .i64 op, .string st, .slice ka m c] 24)
    rw [World.size_alloc, World.size_alloc] at this
    exact this
  have hQ : W.heap[w.heap.size + 1]? = some (.cells #[.int .i64 4, .string ⟨#[]⟩, .slice (some ⟨w.heap.size + 1 + 1, 0, none⟩) 2 2] 24 (0, 0)) := by
    rw [← hW]
    have := World.alloc_heap_new (w.alloc (.cells #[.int .i64 op, .string st, .slice ka m c, .int .i64 n] 42)) (.cells #[.int .i64 4, .string ⟨#[]⟩, .slice (some ⟨w.heap.size + 1 + 1, 0, none⟩) 2 2] 24)
    rw [World.size_alloc] at this
    exact (Below.heap_alloc _ _ _ (by simp)).trans this
  have q0 : W.cell? ⟨w.heap.size + 1, 0, none⟩ = some (.int .i64 4) := by simp only [World.cell?, hQ]; rfl
  have q1 : W.cell? ⟨w.heap.size + 1, 1, none⟩ = some (.string ⟨#[]⟩) := by simp only [World.cell?, hQ]; rfl
  have q2 : W.cell? ⟨w.heap.size + 1, 2, none⟩ = some (.slice (some ⟨w.heap.size + 1 + 1, 0, none⟩) 2 2) := by simp only [World.cell?, hQ]; rfl
  exact bodyPost_ret (v := .agg #[.int .i64 4, .string ⟨#[]⟩, .slice (some ⟨w.heap.size + 1 + 1, 0, none⟩) 2 2]) (by simp [results, Tryz.results65, go_sem, q0, q1, q2]) rfl ⟨_, rfl, by omega, hR, hf⟩
end Go.Proofs.YtdlljlmgoiobpaaGreatDoor
/- Parts joined. -/
namespace Go.Proofs.YtdlljlmgoiobpaaGreatDoor
open Go.RowKit Go.Maps
/-- A part: what it means, and how many atoms it has. -/
structure PtD where
  e : ExprD
  atoms : Int
def PtAt (b : Nat) (W : World) (g o : Nat) (p : PtD) : Prop := ∃ (op : Int) (st : ByteArray) (ka : Option Addr) (m c : Nat) (ks : List ExprD), p.e = .mk op st.data.toList ks ∧ st.size ≤ 1000000000 ∧ g < W.heap.size ∧ g ≠ b ∧ W.cell? ⟨g, o, none⟩ = some (.int .i64 op) ∧ W.cell? ⟨g, o + 1, none⟩ = some (.string st) ∧ W.cell? ⟨g, o + 2, none⟩ = some (.slice ka m c) ∧ W.cell? ⟨g, o + 3, none⟩ = some (.int .i64 p.atoms) ∧ KidE b W ka m c ks
theorem PtAt.keep {b : Nat} {W W' : World} {g o : Nat} {p : PtD} (h : PtAt b W g o p) (hf : FrE b W W') : PtAt b W' g o p := by
  obtain ⟨op, st, ka, m, c, ks, he, hs, hg, hb, c0, c1, c2, c3, hk⟩ := h
  exact ⟨op, st, ka, m, c, ks, he, hs, Nat.lt_of_lt_of_le hg hf.size, hb, (hf.cell hg hb).trans c0, (hf.cell hg hb).trans c1, (hf.cell hg hb).trans c2, (hf.cell hg hb).trans c3, hk.keep hf⟩
/-- What a call answers that answers a part. -/
def PtIs (b : Nat) (W : World) (p : PtD) (v : Value) : Prop := ∃ (op : Int) (st : ByteArray) (ka : Option Addr) (m c : Nat) (ks : List ExprD), v = partV op st ka m c p.atoms ∧ p.e = .mk op st.data.toList ks ∧ st.size ≤ 1000000000 ∧ KidE b W ka m c ks
/-- The cells of a row of Exprs. -/
def KRowE (b : Nat) (W : World) (xs : List Value) (ks : List ExprD) : Prop := ∀ (i : Nat) (k : ExprD), ks[i]? = some k → ∃ (op : Int) (st : ByteArray) (ka : Option Addr) (m c : Nat) (q : List ExprD), k = .mk op st.data.toList q ∧ st.size ≤ 1000000000 ∧ xs[i * 3]? = some (.int .i64 op) ∧ xs[i * 3 + 1]? = some (.string st) ∧ xs[i * 3 + 2]? = some (.slice ka m c) ∧ KidE b W ka m c q
theorem KRowE.snoc {b : Nat} {W : World} {xs : List Value} {ks : List ExprD} {op : Int} {st : ByteArray} {ka : Option Addr} {m c : Nat} {q : List ExprD} (h : KRowE b W xs ks) (hl : xs.length = ks.length * 3) (hs : st.size ≤ 1000000000) (hk : KidE b W ka m c q) : KRowE b W (xs ++ [.int .i64 op, .string st, .slice ka m c]) (ks ++ [.mk op st.data.toList q]) := by
  intro i k hi
  by_cases hlt : i < ks.length
  · rw [List.getElem?_append_left hlt] at hi
    obtain ⟨op, st, ka, m, c, q, he, hs, x0, x1, x2, hk⟩ := h i k hi
    exact ⟨op, st, ka, m, c, q, he, hs, by rw [List.getElem?_append_left (by omega)]; exact x0, by rw [List.getElem?_append_left (by omega)]; exact x1, by rw [List.getElem?_append_left (by omega)]; exact x2, hk⟩
  · have hie : i = ks.length := by
      have := (List.getElem?_eq_some_iff.1 hi).1
      rw [List.length_append] at this
      simp at this
      omega
    subst hie
    rw [List.getElem?_append_right (Nat.le_refl _), Nat.sub_self] at hi
    cases hi
    refine ⟨op, st, ka, m, c, q, rfl, hs, ?_, ?_, ?_, hk⟩
    · rw [List.getElem?_append_right (by omega), show ks.length * 3 - xs.length = 0 by omega]; rfl
    · rw [List.getElem?_append_right (by omega), show ks.length * 3 + 1 - xs.length = 1 by omega]; rfl
    · rw [List.getElem?_append_right (by omega), show ks.length * 3 + 2 - xs.length = 2 by omega]; rfl
theorem own3_cell {B t n g c : Nat} {W : World} {xs : List Value} (h : W.ownsRow B t 3 (.slice (some ⟨g, 0, none⟩) n c) n xs) {i : Nat} {u : Value} (hu : xs[i]? = some u) : W.cell? ⟨g, i, none⟩ = some u := by
  rcases h.2 with ⟨e, _⟩ | ⟨g', c', cur, e, _, hg, _, _, _, hct⟩
  · cases e
  · cases e
    rw [cell_of_row _ _ _ _ _ _ hg]
    rw [← hct, List.getElem?_take] at hu
    split at hu
    · rw [Array.getElem?_toList] at hu
      exact hu
    · cases hu
theorem KRowE.kids {b B : Nat} {w W : World} {n : Nat} {ka : Option Addr} {c : Nat} {xs : List Value} {ks : List ExprD} (h : KRowE b w xs ks) (ho : W.ownsRow B 24 3 (.slice ka n c) n xs) (hn : n = ks.length) (hf : FrE b w W) (hb : b < B) : KidE b W ka n c ks := by
  subst hn
  have ho' := ho
  rcases ho.2 with ⟨e, h1⟩ | ⟨g, c', cur, e, hbg, hg, hc, _⟩
  · injection e with e1 e2 e3
    exact .inl ⟨e1, h1, e3, List.eq_nil_of_length_eq_zero h1⟩
  · cases e
    refine .inr ⟨g, rfl, rfl, hc, fun i k hi => ?_⟩
    obtain ⟨op, st, ka, m, c, q, rfl, hs, x0, x1, x2, hk⟩ := h i k hi
    exact ExE.of ⟨_, _, hg⟩ (by omega) (own3_cell ho' x0) (own3_cell ho' x1) (own3_cell ho' x2) hs (hk.keep hf)
theorem Tryz.info24 : (Tryz.prog.info? 24).map (fun i => (i.zero, i.size, i.bytes)) = some (some (.agg #[.int .i64 0, .string ⟨#[]⟩, .slice none 0 0]), 3, 48) := by kernel_rfl
theorem Tryz.underlying22' : Tryz.prog.underlying 22 = some (.slice 24) := by kernel_rfl
/-- A row of parts. -/
def PsE (b : Nat) (W : World) (gp : Nat) (ps : List PtD) : Prop := ∀ (i : Nat) (p : PtD), ps[i]? = some p → PtAt b W gp (i * 4) p
def joinD (op : Int) (ps : List PtD) : PtD := match ps with
  | [p] => p
  | ps => ⟨.mk op [] (ps.map (·.e)), (ps.map (·.atoms)).sum⟩
theorem part_at4 {fn : Func} {g : Nat} {W : World} {op : Int} {set : ByteArray} {ka : Option Addr} {m c : Nat} {n : Int} {a : Act} {R : Ending → World → Prop} (hr : fn.results = #[.cell 4 42]) (ha : a.tmps[4]? = some (.pointer (some ⟨g, 0, none⟩))) (hd : a.defers = []) (h : PaB W g op set ka m c n) (hR : R (.returned (partV op set ka m c n)) W) : bodyPost Tryz.prog fn R .ret a W := by
  obtain ⟨c0, c1, c2, c3, cf, cl⟩ := h.cells
  refine bodyPost_ret (v := partV op set ka m c n) ?_ hd hR
  simp [results, hr, go_sem, ha, c0, c1, c2, c3, partV]
theorem news3 (W : World) (z : Nat) (hz : W.heap.size = z) (a b c : Value) (t : TypeId) : ∀ (j : Nat) (r : Value), [a, b, c][j]? = some r → (W.alloc (.cells #[a, b, c] t)).cell? ((⟨z, 0, none⟩ : Addr).add j) = some r := by
  subst hz
  exact World.news_of_block (cs := #[a, b, c]) (World.alloc_heap_new W _)
theorem own_in {B t n c : Nat} {W : World} {ka : Option Addr} {xs : List Value} (h : W.ownsRow B t 3 (.slice ka n c) n xs) {k : Nat} (hk : (Value.slice ka n c).ownBlock = some k) : B ≤ k ∧ k < W.heap.size := by
  rcases h.2 with ⟨e, _⟩ | ⟨g', c', cur, e, hb, hg, _⟩
  · rw [e] at hk; cases hk
  · rw [e] at hk; cases hk; exact ⟨hb, (Array.getElem?_eq_some_iff.1 hg).1⟩
theorem PaB.of_grown {g1 B t n c : Nat} {W w6 : World} {op : Int} {set : ByteArray} {ka ka1 : Option Addr} {m k : Nat} {at_ : Int} {xs : List Value} {P R : Obj} (h : PaB W g1 op set ka1 m k at_) (hg : ((W.alloc P).alloc R).grownBy w6 (Value.slice ka n c).ownBlock) (ho : W.ownsRow B t 3 (.slice ka n c) n xs) (hB : g1 < B := by omega) : PaB w6 g1 op set ka1 m k at_ := by
  have hl := (Array.getElem?_eq_some_iff.1 h).1
  refine (hg.block g1 (by rw [World.size_alloc, World.size_alloc]; omega) (fun e => by have := (own_in ho e.symm).1; omega)).trans ?_
  exact (Below.heap_alloc _ _ _ (by rw [World.size_alloc]; omega)).trans ((Below.heap_alloc _ _ _ hl).trans h)
theorem pa_new_grown {B t n c : Nat} {W w6 : World} {op : Int} {set : ByteArray} {ka ka2 : Option Addr} {m k : Nat} {at_ : Int} {xs : List Value} {R : Obj} (hg : ((W.alloc (.cells #[.int .i64 op, .string set, .slice ka2 m k, .int .i64 at_] 42)).alloc R).grownBy w6 (Value.slice ka n c).ownBlock) (ho : W.ownsRow B t 3 (.slice ka n c) n xs) : PaB w6 W.heap.size op set ka2 m k at_ := by
  refine (hg.block W.heap.size (by rw [World.size_alloc, World.size_alloc]; omega) (fun e => by have := (own_in ho e.symm).2; omega)).trans ?_
  exact (Below.heap_alloc _ _ _ (by rw [World.size_alloc]; omega)).trans (World.alloc_heap_new W _)
theorem row_stay {B t n : Nat} {W W' : World} {v : Value} {xs : List Value} (h : W.ownsRow B t 3 v n xs) (hk : ∀ k, v.ownBlock = some k → W'.heap[k]? = W.heap[k]?) : W'.ownsRow B t 3 v n xs := by
  refine ⟨h.1, ?_⟩
  rcases h.2 with ⟨e, e2⟩ | ⟨g', c', cur, e, hb, hg, r⟩
  · exact .inl ⟨e, e2⟩
  · exact .inr ⟨g', c', cur, e, hb, by rw [hk g' (by rw [e]; rfl)]; exact hg, r⟩
theorem atoms_bound (l : List PtD) (h : ∀ p ∈ l, 0 ≤ p.atoms ∧ p.atoms ≤ 1000000) : 0 ≤ (l.map (·.atoms)).sum ∧ (l.map (·.atoms)).sum ≤ l.length * 1000000 := by
  induction l with
  | nil => simp
  | cons p l ih =>
    have h1 := h p (by simp)
    have h2 := ih (fun q hq => h q (by simp [hq]))
    simp only [List.map_cons, List.sum_cons, List.length_cons]
    omega
set_option maxRecDepth 100000 in
set_option maxHeartbeats 2000000 in
theorem join_any (b : Nat) (op : Int) (gp cp : Nat) (ps : List PtD) (w : World) (h : PsE b w gp ps) (hl1 : 1 ≤ ps.length) (hl : ps.length ≤ 1000) (hc : ps.length ≤ cp) (ha : ∀ p ∈ ps, 0 ≤ p.atoms ∧ p.atoms ≤ 1000000) (hb : b < w.heap.size) :
    Calls Tryz.prog 31 #[.int .i64 op, .slice (some ⟨gp, 0, none⟩) ps.length cp] w fun e w' => (∃ v, e = .returned v ∧ PtIs b w' (joinD op ps) v) ∧ ∀ x, FrE x w w' := by
  have hgb : w.heap.size ≠ b := by omega
  by_cases h1 : ps.length = 1
  · obtain ⟨p, rfl⟩ := List.length_eq_one_iff.1 h1
    obtain ⟨o1, st, ka, m, c, ks, he, hs, hg, hgb1, c0, c1, c2, c3, hk⟩ := h 0 p rfl
    have c0 : w.cell? ⟨gp, 0, none⟩ = _ := c0
    have c1 : w.cell? ⟨gp, 1, none⟩ = _ := c1
    have c2 : w.cell? ⟨gp, 2, none⟩ = _ := c2
    have c3 : w.cell? ⟨gp, 3, none⟩ = _ := c3
    have hne : gp ≠ w.heap.size := by omega
    have HK := hide (⟨he, hs, hk⟩ : _ ∧ _ ∧ _)
    clear h he hs hk h1 hl hl1 ha
    go_enter Tryz.func31, Tryz.ntmps31
    go_wp2
    exact part_at4 rfl rfl rfl (PaB.new w o1 st ka m c p.atoms) ⟨⟨_, rfl, o1, st, ka, m, c, ks, rfl, HK.out.1, HK.out.2.1, HK.out.2.2.keep (FrE.alloc b w _)⟩, fun x => FrE.alloc x w _⟩
  · have h1I : ¬ ((ps.length : Int) = 1) := by omega
    have h1b : ((ps.length : Int) == 1) = false := by rw [beq_eq_false_iff_ne]; exact h1I
    have hw0 : ∀ x, FrE x w ((w.alloc (.cells #[.int .i64 0, .string ⟨#[]⟩, .slice none 0 0, .int .i64 0] 42)).alloc (.cells #[.int .i64 op, .string ⟨#[]⟩, .slice none 0 0, .int .i64 0] 42)) := fun x => (FrE.alloc x _ _).trans (FrE.alloc x _ _)
    have hp0 := (PaB.new w 0 ⟨#[]⟩ none 0 0 0).keep (FrE.alloc b _ (.cells #[.int .i64 op, .string ⟨#[]⟩, .slice none 0 0, .int .i64 0] 42)) hgb
    have hp1 := PaB.new (w.alloc (.cells #[.int .i64 0, .string ⟨#[]⟩, .slice none 0 0, .int .i64 0] 42)) op ⟨#[]⟩ none 0 0 0
    rw [World.size_alloc] at hp1
    have H0 := hide (⟨h, hw0, hp0, hp1, ha⟩ : _ ∧ _ ∧ _ ∧ _ ∧ _)
    clear h hw0 hp0 hp1 ha
    go_enter Tryz.func31, Tryz.ntmps31
    go_wp2
    go_loopw [19] (fun iv wr => ∃ (i : Nat) (xs : List Value) (ka : Option Addr) (c : Nat) (n : Int), iv = .int .i64 (i : Int) ∧ i ≤ ps.length ∧ PaB wr w.heap.size 0 ⟨#[]⟩ none 0 0 0 ∧ PaB wr (w.heap.size + 1) op ⟨#[]⟩ ka i c n ∧ wr.ownsRow (w.heap.size + 2) 24 3 (.slice ka i c) i xs ∧ KRowE b w xs ((ps.take i).map (·.e)) ∧ n = ((ps.take i).map (·.atoms)).sum ∧ ∀ x, FrE x w wr) (fun iv _ => ps.length - (intOf iv).toNat)
    case atStart => exact ⟨0, [], none, 0, 0, rfl, Nat.zero_le _, H0.out.2.2.1, H0.out.2.2.2.1, ⟨rfl, .inl ⟨rfl, rfl⟩⟩, fun j k hj => (by simp at hj), rfl, H0.out.2.1⟩
    case round =>
      obtain ⟨i, xs, ka, c, n, rfl, hi, p0, p1, hown, hrow, hn, hf⟩ := hrel
      by_cases hlt : i < ps.length
      · have hiI : (i : Int) < (ps.length : Int) := by omega
        have hpi := (H0.out.1 i ps[i] (List.getElem?_eq_getElem hlt))
        obtain ⟨o2, st, ka2, m2, c2', ks, he, hs, hg, hgb1, d0, d1, d2, d3, hk⟩ := hpi
        have HK := hide (⟨he, hs, hk, hrow, hn, p0, p1, hown, hf⟩ : _ ∧ _ ∧ _ ∧ _ ∧ _ ∧ _ ∧ _ ∧ _ ∧ _)
        have e0 := ((hf b).cell hg hgb1).trans d0
        have e1 := ((hf b).cell hg hgb1).trans d1
        have e2 := ((hf b).cell hg hgb1).trans d2
        have e3 := ((hf b).cell hg hgb1).trans d3
        obtain ⟨a0, a1, a2, a3, af, al⟩ := p1.cells
        have hgr : gp < wr.heap.size := Nat.lt_of_lt_of_le hg (hf b).size
        clear he hs hk hrow hn p0 p1 hown hf d0 d1 d2 d3
        obtain ⟨i0, hi0, z0, z1, z2⟩ := info_parts Tryz.info24
        have HOWN : Hid (wr.ownsRow (w.heap.size + 2) 24 3 (.slice ka i c) i xs) := HK.out.2.2.2.2.2.2.2.1
        have hmaxl : i + 1 ≤ maxLen := by unfold maxLen; omega
        have hatm := H0.out.2.2.2.2 ps[i] (List.getElem_mem _)
        have HP1 : Hid (PaB wr (w.heap.size + 1) op ⟨#[]⟩ ka i c n) := HK.out.2.2.2.2.2.2.1
        have hne1 : wr.heap.size ≠ w.heap.size + 1 := by omega
        have hne2 : w.heap.size + 1 ≠ wr.heap.size := by omega
        have hnb : 0 ≤ n ∧ n ≤ 1000000000 := by
          have := atoms_bound (ps.take i) (fun p hp => H0.out.2.2.2.2 p (List.mem_of_mem_take hp))
          rw [← HK.out.2.2.2.2.1, List.length_take] at this
          omega
        go_wp2_with (at_builtin; refine wpList_append_lies _ rfl (.tmp 25) (.tmp 28) 22 rfl (w.heap.size + 2) 24 i0 _ 3 48 Tryz.underlying22' hi0 z0 z1 z2 rfl (by decide) (.slice ka i c) i xs rfl ((HOWN.out.alloc _).alloc _) ⟨wr.heap.size + 1, 0, none⟩ 1 1 [.int .i64 o2, .string st, .slice ka2 m2 c2'] rfl rfl (news3 _ _ (by rw [World.size_alloc]) _ _ _ _) (by simp [Value.oneCell']) (by decide) hmaxl (by omega) (by rw [World.size_alloc, World.size_alloc]; omega) _ rfl ?_; intro g6 c6 w6 hown6 hg6 hat6 hlt6; have k1 := HP1.out.of_grown hg6 HOWN.out; have k2 := pa_new_grown hg6 HOWN.out; have b0 := k1.cells.1; have b1 := k1.cells.2.1; have b2 := k1.cells.2.2.1; have b3 := k1.cells.2.2.2.1; have bf := k1.cells.2.2.2.2.1; have q3 := k2.cells.2.2.2.1; have HZ := hide (⟨hown6, hg6, hat6, k1, k2⟩ : _ ∧ _ ∧ _ ∧ _ ∧ _); clear hown6 hg6 hat6 k1 k2 e0 e1 e2 e3 a0 a1 a2 a3 af hlt6)
        go_roundw
        case rel =>
          obtain ⟨hown6, hg6, hat6, k1, k2⟩ := HZ.out
          obtain ⟨he, hs, hk, hrow, hn, p0, p1, hown, hf⟩ := HK.out
          have f6 : ∀ x, FrE x w w6 := by
            intro x
            have hf := hf x
            refine ⟨hg6.os.trans hf.os, hg6.tape.trans hf.tape, hg6.output.trans hf.output, ?_, fun k hk hne => ?_⟩
            · have := hg6.size
              rw [World.size_alloc, World.size_alloc] at this
              have := hf.size
              omega
            · have hfs := hf.size
              exact (hg6.block k (by rw [World.size_alloc, World.size_alloc]; omega) (fun e => by have := (own_in hown e.symm).1; omega)).trans ((Below.heap_alloc _ _ _ (by rw [World.size_alloc]; omega)).trans ((Below.heap_alloc _ _ _ (by omega)).trans (hf.block k hk hne)))
          have fs := (FrE.set (w.heap.size + 1) w6 2 (.slice (some ⟨g6, 0, none⟩) (i + 1) c6)).trans (FrE.set (w.heap.size + 1) _ 3 (.int .i64 (n + ps[i].atoms)))
          have htk : ps.take (i + 1) = ps.take i ++ [ps[i]] := List.take_succ_eq_append_getElem hlt
          refine ⟨i + 1, _, some ⟨g6, 0, none⟩, c6, n + ps[i].atoms, by simp, by omega, (p0.of_grown hg6 hown (by omega)).keep fs (by omega), cells_set (cells_set k1 _) _, row_stay hown6 (fun k hk => fs.block k (own_in hown6 hk).2 (by have := (own_in hown6 hk).1; omega)), ?_, ?_, fun x => (f6 x).own (by omega) fs⟩
          · rw [htk, List.map_append]
            have := hrow.snoc (op := o2) (by rw [List.length_map, List.length_take, hown.1]; omega) hs hk
            rw [← he] at this
            exact this
          · rw [htk, List.map_append, List.sum_append, hn]
            simp
        case measure => simp [intOf]; omega
      · have hie : i = ps.length := by omega
        subst hie
        have hiI : ¬ ((ps.length : Int) < (ps.length : Int)) := by omega
        rw [List.take_length] at hrow hn
        obtain ⟨a0, a1, a2, a3, af, al⟩ := p1.cells
        obtain ⟨b0, b1, b2, b3, bf, bl⟩ := p0.cells
        have hne2 : w.heap.size + 1 ≠ w.heap.size := by omega
        have HF := hide (⟨trivial, hn, hf, p0, hrow, hown⟩ : True ∧ _ ∧ _ ∧ _ ∧ _ ∧ _)
        clear hrow hown hn hf p0 p1
        go_wp2
        have hj : joinD op ps = ⟨.mk op [] (ps.map (·.e)), (ps.map (·.atoms)).sum⟩ := by
          unfold joinD
          split
          · exact absurd rfl h1
          · rfl
        have fs := set4_fr wr w.heap.size op ⟨#[]⟩ ka ps.length c n
        refine part_at4 rfl rfl rfl (HF.out.2.2.2.1.set4 op ⟨#[]⟩ ka ps.length c n) ⟨⟨_, rfl, op, ⟨#[]⟩, ka, ps.length, c, ps.map (·.e), ?_, ?_, by decide, ?_⟩, fun x => (HF.out.2.2.1 x).own (Nat.le_refl _) fs⟩
        · rw [hj, HF.out.2.1]
        · rw [hj]
        · exact HF.out.2.2.2.2.1.kids (row_stay HF.out.2.2.2.2.2 (fun k hk => fs.block k (own_in HF.out.2.2.2.2.2 hk).2 (by have := (own_in HF.out.2.2.2.2.2 hk).1; omega))) (by rw [List.length_map]) ((HF.out.2.2.1 b).own (Nat.le_refl _) fs) (by omega)
end Go.Proofs.YtdlljlmgoiobpaaGreatDoor
/- Copying within rows of Exprs. -/
namespace Go.Proofs.YtdlljlmgoiobpaaGreatDoor
open Go.RowKit Go.Maps
theorem run_copy_wide {P : Program} (w : World) (dT sT ty elem : TypeId) (z : Nat) (g o dLen dCap : Nat) (a : Addr) (sLen sCap : Nat) (cur : Array Value) (t : TypeId) (cs : List Value)
    (hu : P.underlying dT = some (.slice elem)) (hs : (P.info? elem).map (·.size) = some z)
    (hg : w.heap[g]? = some (.cells cur t (0, 0))) (hn : cs.length = Nat.min sLen dLen * z)
    (hsrc : ∀ j v, cs[j]? = some v → w.cell? (a.add j) = some v) (hfit : o + cs.length ≤ cur.size) (h1 : ∀ v ∈ cs, v.oneCell' = true) :
    (Builtin.copy_ #[dT, sT] ty #[.slice (some ⟨g, o, none⟩) dLen dCap, .slice (some a) sLen sCap]).run P w =
      .ok (goInt (Nat.min sLen dLen)) (w.setRow g (cur.toList.take o ++ cs ++ cur.toList.drop (o + cs.length)).toArray) := by
  obtain ⟨i, hq, hi⟩ := Option.map_eq_some_iff.1 hs
  have hload := run_loadCells_list (P := P) w a cs hsrc
  have hstore := run_storeCells_at P g o t cs 0 cur w hg (by omega) h1
  rw [hn] at hload
  simp [Builtin.copy_, Builtin.lenOf, Builtin.firstCells, sizeOf, typeInfo, run_underlying hu, hq, hi, hload, hstore]
end Go.Proofs.YtdlljlmgoiobpaaGreatDoor
