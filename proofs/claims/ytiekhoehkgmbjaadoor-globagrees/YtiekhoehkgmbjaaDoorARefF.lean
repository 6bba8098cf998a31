/- The document's ends; what its build wants. -/
import Derived.Test.YtiekhoehkgmbjaaDoorARefD
import Derived.Test.YtiekhoehkgmbjaaDoorARefE
namespace Go.Proofs.YtiekhoehkgmbjaaDoor
open Go.RowKit Go.Maps

theorem asc_zero {l : List Nat} (h : Asc l) : 0 ∈ l ↔ ∃ r, l = 0 :: r := by
  cases l with
  | nil => simp
  | cons x r =>
    constructor
    · intro hm
      rcases List.mem_cons.1 hm with e | hm
      · exact ⟨r, by rw [← e]⟩
      · have := (List.pairwise_cons.1 h).1 0 hm
        omega
    · rintro ⟨r', e⟩
      rw [e]; simp
set_option maxRecDepth 100000 in
theorem ends_any (lv : Value) (l : List Nat) (w : World) (hl : LRow w.heap.size w lv l) (ha : Asc l) (hlen : l.length ≤ 100000000) :
    Calls Tryd.prog 25 #[lv] w fun e w' => e = .returned (.bool (decide (0 ∈ l))) ∧ Below w.heap.size w w' := by
  have hz := asc_zero ha
  rcases hl with ⟨rfl, rfl⟩ | ⟨g, c, hg, rfl, hc, hcell⟩
  · go_enter Tryd.func25, Tryd.ntmps25
    go_wp2
    go_ret
    exact ⟨by simp, Below.refl _ _⟩
  · cases l with
    | nil =>
      go_enter Tryd.func25, Tryd.ntmps25
      go_wp2
      go_ret
      exact ⟨by simp, Below.refl _ _⟩
    | cons x r =>
      have h0 := hcell 0 (by simp)
      simp only [List.getElem_cons_zero] at h0
      have hpos : (0 : Int) < ((x :: r).length : Int) := by simp only [List.length_cons]; omega
      have hd : decide (0 ∈ x :: r) = ((x : Int) == 0) := by
        rw [Bool.eq_iff_iff, decide_eq_true_iff, hz, beq_iff_eq]
        constructor
        · rintro ⟨r', e⟩; cases e; rfl
        · intro e; have e' : x = 0 := by omega
          exact ⟨r, by rw [e']⟩
      rw [hd]
      clear hz hcell hd ha
      generalize (x :: r).length = L at *
      have hL0 : 0 < L := by omega
      go_enter Tryd.func25, Tryd.ntmps25
      go_wp2
      go_ret
      exact ⟨rfl, Below.refl _ _⟩
theorem bldKids_snoc (k : ExprD) : ∀ (ks : List ExprD) (A : List RSt) (next : Nat), bldKids (ks ++ [k]) A next = ((bldD k (bldKids ks A next).1 next).1, (bldKids ks A next).2 ++ [(bldD k (bldKids ks A next).1 next).2]) := by
  intro ks
  induction ks with
  | nil => intro A next; rw [List.nil_append, bldKids, bldKids, bldKids]; rfl
  | cons x r ih => intro A next; rw [List.cons_append, bldKids, ih, bldKids]; rfl
theorem bldKids_take {ks : List ExprD} {i : Nat} (hi : i < ks.length) (A : List RSt) (next : Nat) : bldKids (ks.take (i + 1)) A next = ((bldD ks[i] (bldKids (ks.take i) A next).1 next).1, (bldKids (ks.take i) A next).2 ++ [(bldD ks[i] (bldKids (ks.take i) A next).1 next).2]) := by
  rw [List.take_succ_eq_append_getElem hi, bldKids_snoc]
theorem bldRow_drop {ks : List ExprD} {i : Nat} (hi : i < ks.length) (A : List RSt) (next : Nat) : bldRow (ks.drop i) A next = bldD ks[i] (bldRow (ks.drop (i + 1)) A next).1 (bldRow (ks.drop (i + 1)) A next).2 := by
  rw [List.drop_eq_getElem_cons hi, bldRow]
theorem nodesL_append : ∀ (a b : List ExprD), nodesL (a ++ b) = nodesL a + nodesL b := by
  intro a
  induction a with
  | nil => intro b; rw [List.nil_append, nodesL]; omega
  | cons x r ih => intro b; rw [List.cons_append, nodesL, nodesL, ih]; omega
theorem nodesL_at {ks : List ExprD} {i : Nat} (hi : i < ks.length) : nodesL (ks.take i) + nodes ks[i] + nodesL (ks.drop (i + 1)) = nodesL ks := by
  have h : ks.take i ++ (ks[i] :: ks.drop (i + 1)) = ks := by rw [← List.drop_eq_getElem_cons hi, List.take_append_drop]
  have h2 := nodesL_append (ks.take i) (ks[i] :: ks.drop (i + 1))
  rw [h, nodesL] at h2
  omega
theorem at_block (a : Addr) (n : Nat) : (a.add n).block = a.block := by unfold Addr.add; split <;> rfl
/-- An Expr that is read, wherever it lies, in blocks below B. -/
inductive ERd (B : Nat) (W : World) : Addr → ExprD → Prop
  | nil (p : Addr) (op : Int) (st : ByteArray) (hg : p.block < B) (h0 : W.cell? p = some (.int .i64 op)) (h1 : W.cell? (p.add 1) = some (.string st)) (h2 : W.cell? (p.add 2) = some (.slice none 0 0)) (hs : st.size ≤ 1000000000) : ERd B W p (.mk op st.data.toList [])
  | row (p : Addr) (op : Int) (st : ByteArray) (a : Addr) (ck : Nat) (ks : List ExprD) (hg : p.block < B) (h0 : W.cell? p = some (.int .i64 op)) (h1 : W.cell? (p.add 1) = some (.string st)) (h2 : W.cell? (p.add 2) = some (.slice (some a) ks.length ck)) (hs : st.size ≤ 1000000000) (hc : ks.length ≤ ck)
      (hk : ∀ (i : Nat) (k : ExprD), ks[i]? = some k → ERd B W (a.add (i * 3)) k) : ERd B W p (.mk op st.data.toList ks)
theorem ERd.keep {B : Nat} {W W' : World} (hb : Below B W W') {p : Addr} {e : ExprD} (h : ERd B W p e) : ERd B W' p e := by
  induction h with
  | nil p op st hg h0 h1 h2 hs => exact .nil p op st hg ((hb.cell hg).trans h0) ((hb.cell (by rw [at_block]; exact hg)).trans h1) ((hb.cell (by rw [at_block]; exact hg)).trans h2) hs
  | row p op st a ck ks hg h0 h1 h2 hs hck _ ih => exact .row p op st a ck ks hg ((hb.cell hg).trans h0) ((hb.cell (by rw [at_block]; exact hg)).trans h1) ((hb.cell (by rw [at_block]; exact hg)).trans h2) hs hck ih
theorem ERd.more {B B' : Nat} {W : World} (hB : B ≤ B') {p : Addr} {e : ExprD} (h : ERd B W p e) : ERd B' W p e := by
  induction h with
  | nil p op st hg h0 h1 h2 hs => exact .nil p op st (by omega) h0 h1 h2 hs
  | row p op st a ck ks hg h0 h1 h2 hs hck _ ih => exact .row p op st a ck ks (by omega) h0 h1 h2 hs hck ih
/-- The Kids of one. -/
def KRd (B : Nat) (W : World) (v : Value) (ks : List ExprD) : Prop := (v = .slice none 0 0 ∧ ks = []) ∨ ∃ (gk : Addr) (ck : Nat), v = .slice (some gk) ks.length ck ∧ ks.length ≤ ck ∧ ∀ (i : Nat) (k : ExprD), ks[i]? = some k → ERd B W (gk.add (i * 3)) k
theorem KRd.below {B : Nat} {W W' : World} (hb : Below B W W') {v : Value} {ks : List ExprD} (h : KRd B W v ks) : KRd B W' v ks := by
  rcases h with h | ⟨gk, ck, h1, h2, h3⟩
  · exact .inl h
  · exact .inr ⟨gk, ck, h1, h2, fun i k hk => (h3 i k hk).keep hb⟩
theorem KRd.wide {B B' : Nat} {W : World} {v : Value} {ks : List ExprD} (h : KRd B W v ks) (hB : B ≤ B') : KRd B' W v ks := by
  rcases h with h | ⟨gk, ck, h1, h2, h3⟩
  · exact .inl h
  · exact .inr ⟨gk, ck, h1, h2, fun i k hk => (h3 i k hk).more hB⟩
theorem ERd.inv {B : Nat} {W : World} {p : Addr} {op : Int} {st : List UInt8} {ks : List ExprD} (h : ERd B W p (.mk op st ks)) : p.block < B ∧ W.cell? p = some (.int .i64 op) ∧ (∃ s : ByteArray, s.data.toList = st ∧ s.size ≤ 1000000000 ∧ W.cell? (p.add 1) = some (.string s)) ∧ ∃ v, W.cell? (p.add 2) = some v ∧ KRd B W v ks := by
  cases h with
  | nil p op st hg h0 h1 h2 hs => exact ⟨hg, h0, ⟨st, rfl, hs, h1⟩, _, h2, .inl ⟨rfl, rfl⟩⟩
  | row p op st a ck ks hg h0 h1 h2 hs hck hk => exact ⟨hg, h0, ⟨st, rfl, hs, h1⟩, _, h2, .inr ⟨a, ck, rfl, hck, hk⟩⟩
/-- An Expr as a value. -/
def ExVal (B : Nat) (W : World) (x : Value) (op : Int) (tx : List UInt8) (ks : List ExprD) : Prop := ∃ (s : ByteArray) (v : Value), x = .agg #[.int .i64 op, .string s, v] ∧ s.data.toList = tx ∧ s.size ≤ 1000000000 ∧ KRd B W v ks
def BuildP (B a : Nat) (tv : Value) (evs : List Value) (A' : List RSt) (k : Nat) (w : World) (e : Ending) (w' : World) : Prop :=
  e = .returned (.int .i64 (k : Int)) ∧ ∃ sv' tv' ev' ss' evs', RW B w' a sv' tv' ev' A' ss' evs' ∧ FrR B tv tv' w w' ∧ ∀ v ∈ evs', v ∈ evs ∨ ∀ g, v.ownBlock = some g → w.heap.size ≤ g
def BuildOK (e : ExprD) : Prop := ∀ (B a : Nat) (sv tv ev : Value) (A : List RSt) (ss : List ByteArray) (evs : List Value) (next : Nat) (w : World) (x : Value) (op : Int) (tx : List UInt8) (ks : List ExprD), e = .mk op tx ks → ExVal B w x op tx ks → RW B w a sv tv ev A ss evs → next < A.length → Wf A → A.length + nodes e ≤ 100000000 → B ≤ w.heap.size →
    Calls Tryd.prog 40 #[.pointer (some ⟨a, 0, none⟩), x, .int .i64 (next : Int)] w (BuildP B a tv evs (bldD e A next).1 (bldD e A next).2 w)
theorem FrR.alloc {B : Nat} {tv tv' : Value} {W W' : World} (h : FrR B tv tv' W W') (hB : B ≤ W.heap.size) (o : Obj) : FrR B tv tv' W (W'.alloc o) := by
  have key : ∀ (k : Nat) (x : Obj), W'.heap[k]? = some x → (W'.alloc o).heap[k]? = some x := fun k x hk => (Below.heap_alloc W' o k (Array.getElem?_eq_some_iff.1 hk).1).trans hk
  exact ⟨h.bel.alloc (Nat.le_trans hB h.bel.size) _, h.lies, fun k cs fr hk hne => key k _ (h.row k cs fr hk hne), fun k cs t fr hk a b c d => key k _ (h.oth k cs t fr hk a b c d)⟩
/-- A row of one's own, younger than the call, has grown. -/
theorem FrR.app {B : Nat} {tv tv' v : Value} {W W' W'' : World} {o : Obj} (h : FrR B tv tv' W W') (hB : B ≤ W.heap.size) (hg : (W'.alloc o).grownBy W'' v.ownBlock) (hv : ∀ g, v.ownBlock = some g → W.heap.size ≤ g) : FrR B tv tv' W W'' := by
  have h1 := h.alloc hB o
  have key : ∀ (k : Nat) (x : Obj), k < W.heap.size → (W'.alloc o).heap[k]? = some x → W''.heap[k]? = some x := fun k x hk hx =>
    (hg.block k (Array.getElem?_eq_some_iff.1 hx).1 (fun e => by have := hv k e.symm; omega)).trans hx
  refine ⟨⟨hg.os.trans h1.bel.os, hg.tape.trans h1.bel.tape, hg.output.trans h1.bel.output, Nat.le_trans h1.bel.size hg.size, fun k hk => ?_⟩, h1.lies, fun k cs fr hk hne => key k _ (Array.getElem?_eq_some_iff.1 hk).1 (h1.row k cs fr hk hne), fun k cs t fr hk a b c d => key k _ (Array.getElem?_eq_some_iff.1 hk).1 (h1.oth k cs t fr hk a b c d)⟩
  have hk2 := Nat.lt_of_lt_of_le hk hB
  exact (hg.block k (Nat.lt_of_lt_of_le hk2 h1.bel.size) (fun e => by have := hv k e.symm; omega)).trans (h1.bel.block k hk)
/-- The automaton while a row beside it grows. -/
theorem RW.app {B a : Nat} {W W'' : World} {sv tv ev v : Value} {A : List RSt} {ss : List ByteArray} {evs : List Value} {o : Obj} (h : RW B W a sv tv ev A ss evs) (hv : ∀ g, v.ownBlock = some g → ∃ cs, W.heap[g]? = some (.cells cs 3 (0, 0))) (hat : Apart v tv) (hae : ∀ u ∈ evs, Apart v u) (hg : (W.alloc o).grownBy W'' v.ownBlock) : RW B W'' a sv tv ev A ss evs := by
  have key : ∀ (k : Nat) (x : Obj), v.ownBlock ≠ some k → W.heap[k]? = some x → W''.heap[k]? = some x := fun k x hne hx => by
    have hk := (Array.getElem?_eq_some_iff.1 hx).1
    exact (hg.block k (by rw [World.size_alloc]; omega) (fun e => hne e.symm)).trans ((Below.heap_alloc W o k hk).trans hx)
  have nty : ∀ (k : Nat) (c : Array Value) (t : TypeId), t ≠ 3 → W.heap[k]? = some (.cells c t (0, 0)) → v.ownBlock ≠ some k := fun k c t ht hk e => by
    obtain ⟨cs, hc⟩ := hv k e
    rw [hk] at hc; cases hc; exact ht rfl
  refine ⟨key a _ (nty a _ 103 (by decide) h.box) h.box, h.aB, row_keep h.sr (fun k c hk _ => key k _ (nty k c 9 (by decide) hk) hk), h.hss, h.hsz, row_keep h.ts (fun k c hk e => key k _ (fun e2 => hat k e2 e) hk), row_keep h.es (fun k c hk _ => key k _ (nty k c 54 (by decide) hk) hk), fun i u st hu hst => ?_⟩
  obtain ⟨h1, h2⟩ := h.el i u st hu hst
  exact ⟨row_keep h1 (fun k c hk e => key k _ (fun e2 => hae u (List.mem_of_getElem? hu) k e2 e) hk), h2⟩
end Go.Proofs.YtiekhoehkgmbjaaDoor
