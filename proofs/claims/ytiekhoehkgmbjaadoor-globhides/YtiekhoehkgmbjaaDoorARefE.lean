/- The document's states: state. -/
import Derived.Test.YtiekhoehkgmbjaaDoorARefC
namespace Go.Proofs.YtiekhoehkgmbjaaDoor
open Go.RowKit Go.Maps

def strs (ss : List ByteArray) : List Value := ss.map Value.string
def RBox (W : World) (a : Nat) (sv tv ev : Value) : Prop := W.heap[a]? = some (.cells #[sv, tv, ev] 103 (0, 0))
theorem RBox.cells {W : World} {a : Nat} {sv tv ev : Value} (h : RBox W a sv tv ev) : W.cell? ⟨a, 0, none⟩ = some sv ∧ W.cell? ⟨a, 1, none⟩ = some tv ∧ W.cell? ⟨a, 2, none⟩ = some ev ∧ ∀ j, W.frozen? ⟨a, j, none⟩ = false := by
  unfold RBox at h
  simp [World.cell?, World.frozen?, h]
theorem RBox.set0 {W : World} {a : Nat} {sv tv ev : Value} (h : RBox W a sv tv ev) (u : Value) : RBox (W.setCell ⟨a, 0, none⟩ u) a u tv ev := by
  obtain ⟨hlt, hk⟩ := Array.getElem?_eq_some_iff.1 h
  show (W.heap.modify a _)[a]? = _
  rw [Array.getElem?_eq_getElem (by rw [Array.size_modify]; exact hlt), Array.getElem_modify_self, hk]
  rfl
theorem RBox.set1 {W : World} {a : Nat} {sv tv ev : Value} (h : RBox W a sv tv ev) (u : Value) : RBox (W.setCell ⟨a, 1, none⟩ u) a sv u ev := by
  obtain ⟨hlt, hk⟩ := Array.getElem?_eq_some_iff.1 h
  show (W.heap.modify a _)[a]? = _
  rw [Array.getElem?_eq_getElem (by rw [Array.size_modify]; exact hlt), Array.getElem_modify_self, hk]
  rfl
theorem RBox.set2 {W : World} {a : Nat} {sv tv ev : Value} (h : RBox W a sv tv ev) (u : Value) : RBox (W.setCell ⟨a, 2, none⟩ u) a sv tv u := by
  obtain ⟨hlt, hk⟩ := Array.getElem?_eq_some_iff.1 h
  show (W.heap.modify a _)[a]? = _
  rw [Array.getElem?_eq_getElem (by rw [Array.size_modify]; exact hlt), Array.getElem_modify_self, hk]
  rfl
structure RW (B : Nat) (W : World) (a : Nat) (sv tv ev : Value) (A : List RSt) (ss : List ByteArray) (evs : List Value) : Prop where
  box : RBox W a sv tv ev
  aB : B ≤ a
  sr : W.ownsRow B 9 1 sv A.length (strs ss)
  hss : ss.map (fun t => t.data.toList) = A.map (fun st => st.set)
  hsz : ∀ t ∈ ss, t.size ≤ 1000000000
  ts : W.ownsRow B 3 1 tv A.length (nats (A.map (fun st => st.to)))
  es : W.ownsRow B 54 1 ev A.length evs
  el : ∀ (i : Nat) (v : Value) (st : RSt), evs[i]? = some v → A[i]? = some st → W.ownsRow B 3 1 v st.eps.length (nats st.eps) ∧ Apart v tv
/-- What a call on the document's automaton leaves alone. -/
structure FrR (B : Nat) (tv tv' : Value) (W W' : World) : Prop where
  bel : Below B W W'
  lies : Lies tv tv' W
  row : ∀ (k : Nat) (cs : Array Value) (fr : Nat × Nat), W.heap[k]? = some (.cells cs 3 fr) → tv.ownBlock ≠ some k → W'.heap[k]? = some (.cells cs 3 fr)
  oth : ∀ (k : Nat) (cs : Array Value) (t : TypeId) (fr : Nat × Nat), W.heap[k]? = some (.cells cs t fr) → t ≠ 103 → t ≠ 9 → t ≠ 3 → t ≠ 54 → W'.heap[k]? = some (.cells cs t fr)
theorem FrR.refl (B : Nat) (tv : Value) (W : World) : FrR B tv tv W W := ⟨Below.refl _ _, .inl rfl, fun _ _ _ h _ => h, fun _ _ _ _ h _ _ _ _ => h⟩
theorem Lies.trans {u v x : Value} {A B : World} (h : Lies u v A) (h2 : Lies v x B) (hs : A.heap.size ≤ B.heap.size) : Lies u x A := by
  rcases h2 with e | e
  · rcases h with e' | e'
    · exact .inl (e.trans e')
    · exact .inr (fun g hg => e' g (e ▸ hg))
  · exact .inr (fun g hg => Nat.le_trans hs (e g hg))
theorem FrR.trans {B : Nat} {t u v : Value} {X Y Z : World} (h : FrR B t u X Y) (h2 : FrR B u v Y Z) : FrR B t v X Z := by
  refine ⟨h.bel.trans h2.bel, h.lies.trans h2.lies h.bel.size, fun k cs fr hk hne => h2.row k cs fr (h.row k cs fr hk hne) (fun e => ?_), fun k cs t fr hk a b c d => h2.oth k cs t fr (h.oth k cs t fr hk a b c d) a b c d⟩
  rcases h.lies with e' | e'
  · exact hne (e' ▸ e)
  · have h1 := e' k e
    have := (Array.getElem?_eq_some_iff.1 hk).1
    omega
/-- A row of type 3 that is not the automaton's. -/
theorem FrR.own {B B' : Nat} {tv tv' v : Value} {W W' : World} {n : Nat} {xs : List Value} (h : FrR B tv tv' W W') (ho : W.ownsRow B' 3 1 v n xs) (ha : Apart v tv) : W'.ownsRow B' 3 1 v n xs := by
  refine ⟨ho.1, ?_⟩
  rcases ho.2 with h2 | ⟨g, cap, cur, e, hbb, hg, r⟩
  · exact .inl h2
  · exact .inr ⟨g, cap, cur, e, hbb, h.row g _ _ hg (fun e2 => ha g (by rw [e]; rfl) e2), r⟩
theorem FrR.apart {B B' : Nat} {tv tv' v : Value} {W W' : World} {n : Nat} {xs : List Value} (h : FrR B tv tv' W W') (ho : W.ownsRow B' 3 1 v n xs) (ha : Apart v tv) : Apart v tv' := fun g hg e => by
  rcases h.lies with e' | e'
  · exact ha g hg (e' ▸ e)
  · have h1 := e' g e
    have h2 := own_lt ho hg
    omega
theorem Tryd.info9 : (Tryd.prog.info? 9).map (fun i => (i.zero, i.size, i.bytes)) = some (some (.string ⟨#[]⟩), 1, 16) := by kernel_rfl
theorem Tryd.info54 : (Tryd.prog.info? 54).map (fun i => (i.zero, i.size, i.bytes)) = some (some (.slice none 0 0), 1, 24) := by kernel_rfl
theorem Tryd.underlying100 : Tryd.prog.underlying 100 = some (.slice 9) := by kernel_rfl
theorem Tryd.underlying101 : Tryd.prog.underlying 101 = some (.slice 54) := by kernel_rfl
/-- One append into a field of the automaton: what it leaves. -/
theorem field_append {B a j t : Nat} {w w1 : World} {ob : Obj} {y : Value} {cs : Array Value} (hbox : w.heap[a]? = some (.cells cs 103 (0, 0))) (hy : ∀ k, y.ownBlock = some k → B ≤ k ∧ ∃ c, w.heap[k]? = some (.cells c t (0, 0))) (ht : t ≠ 103) (haB : B ≤ a) (hB : B ≤ w.heap.size) (hg1 : (w.alloc ob).grownBy w1 y.ownBlock) (u : Value) :
    Below B w (w1.setCell ⟨a, j, none⟩ u) ∧ w1.heap[a]? = some (.cells cs 103 (0, 0)) ∧ (∀ (k : Nat) (o : Obj), w.heap[k]? = some o → k ≠ a → y.ownBlock ≠ some k → (w1.setCell ⟨a, j, none⟩ u).heap[k]? = some o) := by
  have hal : Below w.heap.size w (w.alloc ob) := (Below.refl _ _).alloc (Nat.le_refl _) _
  have hs := set_grown w1 a j u
  have key : ∀ (k : Nat) (o : Obj), w.heap[k]? = some o → y.ownBlock ≠ some k → w1.heap[k]? = some o := fun k o hk hne => by
    have hlt := (Array.getElem?_eq_some_iff.1 hk).1
    exact (hg1.block k (Nat.lt_of_lt_of_le hlt hal.size) (fun e => hne e.symm)).trans ((hal.block k hlt).trans hk)
  have hya : y.ownBlock ≠ some a := fun e => by
    obtain ⟨_, c, hc⟩ := hy a e
    rw [hbox] at hc
    cases hc
    exact ht rfl
  refine ⟨?_, key a _ hbox hya, fun k o hk hne hy2 => (hs.block k (Nat.lt_of_lt_of_le (Array.getElem?_eq_some_iff.1 hk).1 (Nat.le_trans hal.size hg1.size)) (fun e => hne (Option.some.inj e))).trans (key k o hk hy2)⟩
  refine ⟨hs.os.trans (hg1.os.trans hal.os), hs.tape.trans (hg1.tape.trans hal.tape), hs.output.trans (hg1.output.trans hal.output), Nat.le_trans hal.size (Nat.le_trans hg1.size hs.size), fun k hk => ?_⟩
  have hk1 := Nat.lt_of_lt_of_le hk hB
  have hk2 := Nat.lt_of_lt_of_le hk1 hal.size
  refine (hs.block k (Nat.lt_of_lt_of_le hk2 hg1.size) (fun e => by have e' : k = a := Option.some.inj e; omega)).trans ((hg1.block k hk2 (fun e => ?_)).trans (hal.block k hk1))
  have := (hy k e.symm).1
  omega

theorem row_keep {W W' : World} {B t sz n : Nat} {v : Value} {xs : List Value} (h : W.ownsRow B t sz v n xs) (hk : ∀ (k : Nat) (c : Array Value), W.heap[k]? = some (.cells c t (0, 0)) → v.ownBlock = some k → W'.heap[k]? = some (.cells c t (0, 0))) : W'.ownsRow B t sz v n xs := by
  refine ⟨h.1, ?_⟩
  rcases h.2 with h2 | ⟨g, cap, cur, e, hbb, hg, r⟩
  · exact .inl h2
  · exact .inr ⟨g, cap, cur, e, hbb, hk g cur hg (by rw [e]; rfl), r⟩
theorem sr_new {ss : List ByteArray} {A : List RSt} {t : ByteArray} {st : RSt} (h : ss.map (fun t => t.data.toList) = A.map (fun st => st.set)) (ht : t.data.toList = st.set) : (ss ++ [t]).map (fun t => t.data.toList) = (A ++ [st]).map (fun st => st.set) := by
  rw [List.map_append, List.map_append, h]
  simp [ht]
/-- The automaton between two appends, and rows beside it. -/
structure RM (B : Nat) (W : World) (a : Nat) (sv tv ev : Value) (ns nt ne : Nat) (S T E : List Value) (L : List (Value × List Nat)) : Prop where
  box : RBox W a sv tv ev
  aB : B ≤ a
  sr : W.ownsRow B 9 1 sv ns S
  tr : W.ownsRow B 3 1 tv nt T
  er : W.ownsRow B 54 1 ev ne E
  lr : ∀ p ∈ L, W.ownsRow B 3 1 p.1 p.2.length (nats p.2) ∧ Apart p.1 tv
theorem RM.st1 {B a ns nt ne g c : Nat} {w w1 : World} {sv tv ev u : Value} {S T E : List Value} {L : List (Value × List Nat)} {ob : Obj} (h : RM B w a sv tv ev ns nt ne S T E L) (hB : B ≤ w.heap.size) (hown : w1.ownsRow B 9 1 (.slice (some ⟨g, 0, none⟩) (ns + 1) c) (ns + 1) (S ++ [u])) (hg : (w.alloc ob).grownBy w1 sv.ownBlock) :
    RM B (w1.setCell ⟨a, 0, none⟩ (.slice (some ⟨g, 0, none⟩) (ns + 1) c)) a (.slice (some ⟨g, 0, none⟩) (ns + 1) c) tv ev (ns + 1) nt ne (S ++ [u]) T E L ∧ FrR B tv tv w (w1.setCell ⟨a, 0, none⟩ (.slice (some ⟨g, 0, none⟩) (ns + 1) c)) ∧ RBox w1 a sv tv ev := by
  obtain ⟨F1, F2, F3⟩ := field_append (B := B) (j := 0) h.box (fun k e => own_cells h.sr e) (by decide) h.aB hB hg (.slice (some ⟨g, 0, none⟩) (ns + 1) c)
  have ty : ∀ (k : Nat) (cs : Array Value) (t : TypeId) (fr : Nat × Nat), w.heap[k]? = some (.cells cs t fr) → t ≠ 103 → t ≠ 9 → (w1.setCell ⟨a, 0, none⟩ (.slice (some ⟨g, 0, none⟩) (ns + 1) c)).heap[k]? = some (.cells cs t fr) := fun k cs t fr hk h1 h2 => F3 k _ hk (fun e => by subst e; have := h.box; unfold RBox at this; rw [hk] at this; cases this; exact h1 rfl) (fun e => by obtain ⟨_, cur, hc⟩ := own_cells h.sr e; rw [hk] at hc; cases hc; exact h2 rfl)
  refine ⟨⟨RBox.set0 F2 _, h.aB, ownsRow_setCell_other hown (a := ⟨a, 0, none⟩) (own_not_box hown F2 (by decide)) _, row_keep h.tr (fun k c hk _ => ty k c 3 _ hk (by decide) (by decide)), row_keep h.er (fun k c hk _ => ty k c 54 _ hk (by decide) (by decide)), fun p hp => ⟨row_keep (h.lr p hp).1 (fun k c hk _ => ty k c 3 _ hk (by decide) (by decide)), (h.lr p hp).2⟩⟩, ⟨F1, .inl rfl, fun k cs fr hk _ => ty k cs 3 fr hk (by decide) (by decide), fun k cs t fr hk h1 h2 _ _ => ty k cs t fr hk h1 h2⟩, F2⟩
theorem RM.st2 {B a ns nt ne g c : Nat} {w w1 : World} {sv tv ev u : Value} {S T E : List Value} {L : List (Value × List Nat)} {ob : Obj} (h : RM B w a sv tv ev ns nt ne S T E L) (hB : B ≤ w.heap.size) (hown : w1.ownsRow B 3 1 (.slice (some ⟨g, 0, none⟩) (nt + 1) c) (nt + 1) (T ++ [u])) (hg : (w.alloc ob).grownBy w1 tv.ownBlock) (hat : tv.ownBlock = some g ∨ g = w.heap.size + 1) :
    RM B (w1.setCell ⟨a, 1, none⟩ (.slice (some ⟨g, 0, none⟩) (nt + 1) c)) a sv (.slice (some ⟨g, 0, none⟩) (nt + 1) c) ev ns (nt + 1) ne S (T ++ [u]) E L ∧ FrR B tv (.slice (some ⟨g, 0, none⟩) (nt + 1) c) w (w1.setCell ⟨a, 1, none⟩ (.slice (some ⟨g, 0, none⟩) (nt + 1) c)) ∧ RBox w1 a sv tv ev := by
  obtain ⟨F1, F2, F3⟩ := field_append (B := B) (j := 1) h.box (fun k e => own_cells h.tr e) (by decide) h.aB hB hg (.slice (some ⟨g, 0, none⟩) (nt + 1) c)
  have ty : ∀ (k : Nat) (cs : Array Value) (t : TypeId) (fr : Nat × Nat), w.heap[k]? = some (.cells cs t fr) → t ≠ 103 → tv.ownBlock ≠ some k → (w1.setCell ⟨a, 1, none⟩ (.slice (some ⟨g, 0, none⟩) (nt + 1) c)).heap[k]? = some (.cells cs t fr) := fun k cs t fr hk h1 h2 => F3 k _ hk (fun e => by subst e; have := h.box; unfold RBox at this; rw [hk] at this; cases this; exact h1 rfl) h2
  have ny : ∀ (k : Nat) (cs : Array Value) (t : TypeId) (fr : Nat × Nat), w.heap[k]? = some (.cells cs t fr) → t ≠ 3 → tv.ownBlock ≠ some k := fun k cs t fr hk h3 e => by
    obtain ⟨_, cur, hc⟩ := own_cells h.tr e
    rw [hk] at hc; cases hc; exact h3 rfl
  have hli : Lies tv (.slice (some ⟨g, 0, none⟩) (nt + 1) c) w := by
    rcases hat with e | e
    · exact .inl e.symm
    · exact .inr (fun g2 e2 => by have e3 : g = g2 := Option.some.inj e2; omega)
  refine ⟨⟨RBox.set1 F2 _, h.aB, row_keep h.sr (fun k c hk _ => ty k c 9 _ hk (by decide) (ny k c 9 _ hk (by decide))), ownsRow_setCell_other hown (a := ⟨a, 1, none⟩) (own_not_box hown F2 (by decide)) _, row_keep h.er (fun k c hk _ => ty k c 54 _ hk (by decide) (ny k c 54 _ hk (by decide))), fun p hp => ⟨row_keep (h.lr p hp).1 (fun k c hk e => ty k c 3 _ hk (by decide) (fun e2 => (h.lr p hp).2 k e e2)), fun g2 hg2 e => ?_⟩⟩, ⟨F1, hli, fun k cs fr hk hne => ty k cs 3 fr hk (by decide) hne, fun k cs t fr hk h1 h2 h3 _ => ty k cs t fr hk h1 (ny k cs t fr hk h3)⟩, F2⟩
  rcases hli with e' | e'
  · exact (h.lr p hp).2 g2 hg2 (e' ▸ e)
  · have h1 := e' g2 e
    have h2 := own_lt (h.lr p hp).1 hg2
    omega
theorem RM.st3 {B a ns nt ne g c : Nat} {w w1 : World} {sv tv ev u : Value} {S T E : List Value} {L : List (Value × List Nat)} {ob : Obj} (h : RM B w a sv tv ev ns nt ne S T E L) (hB : B ≤ w.heap.size) (hown : w1.ownsRow B 54 1 (.slice (some ⟨g, 0, none⟩) (ne + 1) c) (ne + 1) (E ++ [u])) (hg : (w.alloc ob).grownBy w1 ev.ownBlock) :
    RM B (w1.setCell ⟨a, 2, none⟩ (.slice (some ⟨g, 0, none⟩) (ne + 1) c)) a sv tv (.slice (some ⟨g, 0, none⟩) (ne + 1) c) ns nt (ne + 1) S T (E ++ [u]) L ∧ FrR B tv tv w (w1.setCell ⟨a, 2, none⟩ (.slice (some ⟨g, 0, none⟩) (ne + 1) c)) ∧ RBox w1 a sv tv ev := by
  obtain ⟨F1, F2, F3⟩ := field_append (B := B) (j := 2) h.box (fun k e => own_cells h.er e) (by decide) h.aB hB hg (.slice (some ⟨g, 0, none⟩) (ne + 1) c)
  have ty : ∀ (k : Nat) (cs : Array Value) (t : TypeId) (fr : Nat × Nat), w.heap[k]? = some (.cells cs t fr) → t ≠ 103 → t ≠ 54 → (w1.setCell ⟨a, 2, none⟩ (.slice (some ⟨g, 0, none⟩) (ne + 1) c)).heap[k]? = some (.cells cs t fr) := fun k cs t fr hk h1 h2 => F3 k _ hk (fun e => by subst e; have := h.box; unfold RBox at this; rw [hk] at this; cases this; exact h1 rfl) (fun e => by obtain ⟨_, cur, hc⟩ := own_cells h.er e; rw [hk] at hc; cases hc; exact h2 rfl)
  refine ⟨⟨RBox.set2 F2 _, h.aB, row_keep h.sr (fun k c hk _ => ty k c 9 _ hk (by decide) (by decide)), row_keep h.tr (fun k c hk _ => ty k c 3 _ hk (by decide) (by decide)), ownsRow_setCell_other hown (a := ⟨a, 2, none⟩) (own_not_box hown F2 (by decide)) _, fun p hp => ⟨row_keep (h.lr p hp).1 (fun k c hk _ => ty k c 3 _ hk (by decide) (by decide)), (h.lr p hp).2⟩⟩, ⟨F1, .inl rfl, fun k cs fr hk _ => ty k cs 3 fr hk (by decide) (by decide), fun k cs t fr hk h1 _ _ h4 => ty k cs t fr hk h1 h4⟩, F2⟩
theorem cell_one_new' (W : World) (x : Value) (t : TypeId) (m : Nat) (h : W.heap.size = m) : ∀ (j : Nat) (u : Value), [x][j]? = some u → (W.alloc (.cells #[x] t)).cell? ((⟨m, 0, none⟩ : Addr).add j) = some u := by
  subst h
  exact cell_one_new W x t
theorem set_size (W : World) (p : Addr) (u : Value) : (W.setCell p u).heap.size = W.heap.size := by
  show (W.heap.modify _ _).size = _
  rw [Array.size_modify]
def StateP (B a : Nat) (tv : Value) (A : List RSt) (ss : List ByteArray) (evs : List Value) (t : ByteArray) (n : Nat) (v : Value) (l : List Nat) (w : World) (e : Ending) (w' : World) : Prop :=
  e = .returned (.int .i64 (A.length : Int)) ∧ ∃ sv' tv' ev', RW B w' a sv' tv' ev' (A ++ [⟨t.data.toList, n, l⟩]) (ss ++ [t]) (evs ++ [v]) ∧ FrR B tv tv' w w'
set_option maxRecDepth 100000 in
set_option maxHeartbeats 4000000 in
theorem state_any (B a : Nat) (sv tv ev : Value) (A : List RSt) (ss : List ByteArray) (evs : List Value) (t : ByteArray) (n : Nat) (v : Value) (l : List Nat) (w : World) (h : RW B w a sv tv ev A ss evs) (hv : w.ownsRow B 3 1 v l.length (nats l)) (hva : Apart v tv) (ht : t.size ≤ 1000000000) (hl : A.length ≤ 100000000) (hB : B ≤ w.heap.size) :
    Calls Tryd.prog 39 #[.pointer (some ⟨a, 0, none⟩), .string t, .int .i64 (n : Int), v] w (StateP B a tv A ss evs t n v l w) := by
  obtain ⟨i9, hi9, z90, z91, z92⟩ := info_parts Tryd.info9
  obtain ⟨i3, hi3, z30, z31, z32⟩ := info_parts Tryd.info3
  obtain ⟨i5, hi5, z50, z51, z52⟩ := info_parts Tryd.info54
  have hevl : evs.length = A.length := by have := h.es.1; omega
  have hM : RM B w a sv tv ev A.length A.length A.length (strs ss) (nats (A.map (fun st => st.to))) evs ((evs.zip (A.map (fun st => st.eps))) ++ [(v, l)]) := by
    refine ⟨h.box, h.aB, h.sr, h.ts, h.es, fun p hp => ?_⟩
    rcases List.mem_append.1 hp with hp | hp
    · obtain ⟨i, hi, e⟩ := List.mem_iff_getElem.1 hp
      rw [List.length_zip, List.length_map] at hi
      rw [List.getElem_zip, List.getElem_map] at e
      subst e
      exact h.el i _ _ (List.getElem?_eq_getElem (by omega)) (List.getElem?_eq_getElem (by omega))
    · rw [List.mem_singleton] at hp
      subst hp
      exact ⟨hv, hva⟩
  obtain ⟨va, vn, vc, rfl⟩ : ∃ x y z, v = .slice x y z := by
    obtain ⟨x, z, e, _⟩ := own_shape hv
    exact ⟨x, _, z, e⟩
  have HFIN : Hid (∀ (sv' tv' ev' : Value) (w' : World), RM B w' a sv' tv' ev' (A.length + 1) (A.length + 1) (A.length + 1) (strs ss ++ [.string t]) (nats (A.map (fun st => st.to)) ++ [.int .i64 (n : Int)]) (evs ++ [.slice va vn vc]) ((evs.zip (A.map (fun st => st.eps))) ++ [(.slice va vn vc, l)]) → FrR B tv tv' w w' → StateP B a tv A ss evs t n (.slice va vn vc) l w (.returned (.int .i64 (A.length : Int))) w') := fun sv' tv' ev' w' hM' hF => by
    have el : (A ++ [(⟨t.data.toList, n, l⟩ : RSt)]).length = A.length + 1 := by simp
    refine ⟨rfl, sv', tv', ev', ⟨hM'.box, hM'.aB, ?_, sr_new h.hss rfl, fun x hx => ?_, ?_, ?_, fun i u st hu hst => ?_⟩, hF⟩
    · rw [el]
      have : strs (ss ++ [t]) = strs ss ++ [.string t] := by simp [strs]
      rw [this]; exact hM'.sr
    · rcases List.mem_append.1 hx with hx | hx
      · exact h.hsz x hx
      · rw [List.mem_singleton] at hx; subst hx; exact ht
    · rw [el]
      have : nats ((A ++ [(⟨t.data.toList, n, l⟩ : RSt)]).map (fun st => st.to)) = nats (A.map (fun st => st.to)) ++ [.int .i64 (n : Int)] := by simp [nats]
      rw [this]; exact hM'.tr
    · rw [el]; exact hM'.er
    · have hil := (List.getElem?_eq_some_iff.1 hst).1
      rw [el] at hil
      rcases Nat.lt_or_ge i A.length with hi | hi
      · rw [List.getElem?_append_left (by omega)] at hu
        rw [List.getElem?_append_left hi] at hst
        have hmem : (u, st.eps) ∈ evs.zip (A.map (fun st => st.eps)) := by
          refine List.mem_iff_getElem?.2 ⟨i, ?_⟩
          rw [List.getElem?_zip_eq_some]
          exact ⟨hu, by rw [List.getElem?_map, hst]; rfl⟩
        exact hM'.lr (u, st.eps) (List.mem_append.2 (.inl hmem))
      · have hie : i = A.length := by omega
        subst hie
        rw [← hevl, List.getElem?_append_right (Nat.le_refl _), Nat.sub_self] at hu
        rw [List.getElem?_append_right (Nat.le_refl _), Nat.sub_self] at hst
        cases hu
        cases hst
        exact hM'.lr (.slice va vn vc, l) (by simp)
  obtain ⟨c0, c1, c2, cf⟩ := h.box.cells
  have f0 := cf 0
  have hsr := hM.sr
  have HM := hide hM
  clear h hv cf hM hva
  go_enter Tryd.func39, Tryd.ntmps39
  go_wp2_with (first
    | (at_builtin; refine wpList_append_lies _ rfl (.tmp 13) (.tmp 15) 100 rfl B 9 i9 _ 1 16 Tryd.underlying100 hi9 z90 z91 z92 rfl (by decide) sv A.length (strs ss) rfl (hsr.alloc _) ⟨w.heap.size, 0, none⟩ 1 1 [.string t] rfl rfl (cell_one_new _ _ _) (by simp [Value.oneCell']) (by decide) (by unfold maxLen; omega) (by omega) (by simp; omega) _ rfl ?_; intro g1 k1 w1 hown1 hg1 _ _; obtain ⟨M1, R1, X1⟩ := (unhide HM).st1 hB hown1 hg1; obtain ⟨d0, d1, d2, df⟩ := X1.cells; have df0 := df 0; have df1 := df 1; have htr1 := M1.tr; have hB1 := Nat.le_trans hB R1.bel.size)
    | (at_builtin; refine wpList_append_lies _ rfl (.tmp 23) (.tmp 25) 54 rfl B 3 i3 _ 1 8 Tryd.underlying54' hi3 z30 z31 z32 rfl (by decide) tv A.length _ rfl (htr1.alloc _) ⟨w1.heap.size, 0, none⟩ 1 1 [.int .i64 (n : Int)] rfl rfl (cell_one_new' _ _ _ _ (set_size _ _ _)) (by simp [Value.oneCell']) (by decide) (by unfold maxLen; omega) (by omega) (by rw [World.size_alloc]; omega) _ rfl ?_; intro g2 k2 w2 hown2 hg2 hat2 _; obtain ⟨M2, R2, X2⟩ := M1.st2 hB1 hown2 hg2 (by rw [World.size_alloc] at hat2; exact hat2); obtain ⟨e0, e1, e2, ef⟩ := X2.cells; have ef1 := ef 1; have her2 := M2.er; have hB2 := Nat.le_trans hB1 R2.bel.size)
    | (at_builtin; refine wpList_append_lies _ rfl (.tmp 33) (.tmp 35) 101 rfl B 54 i5 _ 1 24 Tryd.underlying101 hi5 z50 z51 z52 rfl (by decide) ev A.length _ rfl (her2.alloc _) ⟨w2.heap.size, 0, none⟩ 1 1 [.slice va vn vc] rfl rfl (cell_one_new' _ _ _ _ (set_size _ _ _)) (by simp [Value.oneCell']) (by decide) (by unfold maxLen; omega) (by omega) (by rw [World.size_alloc]; omega) _ rfl ?_; intro g3 k3 w3 hown3 hg3 _ _; obtain ⟨M3, R3, X3⟩ := M2.st3 hB2 hown3 hg3; obtain ⟨q0, q1, q2, qf⟩ := X3.cells; have qf2 := qf 2))
  go_ret
  exact HFIN.out _ _ _ _ M3 ((R1.trans R2).trans R3)
end Go.Proofs.YtiekhoehkgmbjaaDoor
