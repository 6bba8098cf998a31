/- What the glob texts stand on (ported from the seat of the part Auto, Glob, Ere). -/
import Derived.Test.YtjbdoeoimodhkaaGreatDoorAMatch
import Derived.BigQuiet
import Derived.Deep.AppendLies
import Derived.Deep.LoopGhost
import Derived.Deep.QuietTactic
import Derived.Deep.RegionLaw
import Derived.Laws.AppendOwn
import Derived.Laws.Bits64b
import Derived.Laws.BitsLemmas
import Derived.Laws.OwnMore
import Derived.Lib.SliceRun
import Derived.Lib.TrailingZeros
import Derived.LoopIn
import Derived.LoopNIn
import Derived.Maps.AppendAt
import Derived.Maps.OwnOps
import Derived.Maps.OwnSet
import Derived.Maps.Views
import Derived.Outline
import Derived.OwnWalkIn
import Derived.ProofKit
import Derived.RangeFuncBox
import Derived.RangeFuncLeaves
import Derived.RangeFuncNested
import Derived.Shelf.Abstract
import Derived.Shelf.RegionOpen
import Derived.StringKeys
import Derived.TacticsInMore
import Derived.WalkKit
namespace Go.Proofs.YtjbdoeoimodhkaaGreatDoor
open Go.RowKit Go.Maps

/-- An Expr in its own block. -/
def Box28 (W : World) (g : Nat) (op : Int) (s : ByteArray) (v : Value) : Prop := W.heap[g]? = some (.cells #[.int .i64 op, .string s, v] 106 (0, 0))
theorem below_alloc_block {B : Nat} {W W' : World} (hb : Below B W W') (hB : B ≤ W'.heap.size) (o : Obj) (a : Nat) (ha : a < B) : (W'.alloc o).heap[a]? = W.heap[a]? := by
  have h1 := hb.block a ha
  by_cases hl : a < W'.heap.size
  · rw [← h1]
    exact (((Below.refl W'.heap.size W').alloc (Nat.le_refl _) o).block a hl)
  · exact absurd (Nat.lt_of_lt_of_le ha hB) (by omega)
def hasB (t : ByteArray) (c : UInt8) : Bool := decide (c ∈ t.data.toList)
/-! ### with -/
theorem own_lt {W : World} {B t sz n g : Nat} {v : Value} {xs : List Value} (h : W.ownsRow B t sz v n xs) (hg : v.ownBlock = some g) : g < W.heap.size := by
  obtain ⟨_, cur, hc⟩ := own_cells h hg
  exact (Array.getElem?_eq_some_iff.1 hc).1
theorem Tryz.underlying32 : Tryz.prog.underlying 32 = some (.slice 9) := by kernel_rfl
theorem row_keep {W W' : World} {B t sz n : Nat} {v : Value} {xs : List Value} (h : W.ownsRow B t sz v n xs) (hk : ∀ (k : Nat) (c : Array Value), W.heap[k]? = some (.cells c t (0, 0)) → v.ownBlock = some k → W'.heap[k]? = some (.cells c t (0, 0))) : W'.ownsRow B t sz v n xs := by
  refine ⟨h.1, ?_⟩
  rcases h.2 with h2 | ⟨g, cap, cur, e, hbb, hg, r⟩
  · exact .inl h2
  · exact .inr ⟨g, cap, cur, e, hbb, hk g cur hg (by rw [e]; rfl), r⟩
theorem set_size (W : World) (p : Addr) (u : Value) : (W.setCell p u).heap.size = W.heap.size := by
  show (W.heap.modify _ _).size = _
  rw [Array.size_modify]
/-- An Expr in cells whose blocks are among some. -/
inductive ExprIn (S : Nat → Prop) (W : World) : Nat → Nat → ExprD → Prop
  | nil (g o : Nat) (op : Int) (st : ByteArray) (hg : S g) (h0 : W.cell? ⟨g, o, none⟩ = some (.int .i64 op)) (h1 : W.cell? ⟨g, o + 1, none⟩ = some (.string st)) (h2 : W.cell? ⟨g, o + 2, none⟩ = some (.slice none 0 0)) (hs : st.size ≤ 1000000000) : ExprIn S W g o (.mk op st.data.toList [])
  | row (g o : Nat) (op : Int) (st : ByteArray) (gk ck : Nat) (ks : List ExprD) (hg : S g) (h0 : W.cell? ⟨g, o, none⟩ = some (.int .i64 op)) (h1 : W.cell? ⟨g, o + 1, none⟩ = some (.string st)) (h2 : W.cell? ⟨g, o + 2, none⟩ = some (.slice (some ⟨gk, 0, none⟩) ks.length ck)) (hs : st.size ≤ 1000000000) (hc : ks.length ≤ ck)
      (hk : ∀ (i : Nat) (k : ExprD), ks[i]? = some k → ExprIn S W gk (i * 3) k) : ExprIn S W g o (.mk op st.data.toList ks)
theorem cell_same {W W' : World} {p : Addr} (h : W'.heap[p.block]? = W.heap[p.block]?) : W'.cell? p = W.cell? p := by
  unfold World.cell?
  rw [h]
theorem ExprIn.keep {S S' : Nat → Prop} {W W' : World} (hS : ∀ k, S k → S' k) (hb : ∀ k, S k → W'.heap[k]? = W.heap[k]?) {g o : Nat} {e : ExprD} (h : ExprIn S W g o e) : ExprIn S' W' g o e := by
  induction h with
  | nil g o op st hg h0 h1 h2 hs => exact .nil g o op st (hS g hg) ((cell_same (p := ⟨g, o, none⟩) (hb g hg)).trans h0) ((cell_same (p := ⟨g, o + 1, none⟩) (hb g hg)).trans h1) ((cell_same (p := ⟨g, o + 2, none⟩) (hb g hg)).trans h2) hs
  | row g o op st gk ck ks hg h0 h1 h2 hs hc _ ih => exact .row g o op st gk ck ks (hS g hg) ((cell_same (p := ⟨g, o, none⟩) (hb g hg)).trans h0) ((cell_same (p := ⟨g, o + 1, none⟩) (hb g hg)).trans h1) ((cell_same (p := ⟨g, o + 2, none⟩) (hb g hg)).trans h2) hs hc ih
def KidsIn (S : Nat → Prop) (W : World) (v : Value) (ks : List ExprD) : Prop := (v = .slice none 0 0 ∧ ks = []) ∨ ∃ gk ck, v = .slice (some ⟨gk, 0, none⟩) ks.length ck ∧ ks.length ≤ ck ∧ ∀ (i : Nat) (k : ExprD), ks[i]? = some k → ExprIn S W gk (i * 3) k
theorem KidsIn.keep {S S' : Nat → Prop} {W W' : World} (hS : ∀ k, S k → S' k) (hb : ∀ k, S k → W'.heap[k]? = W.heap[k]?) {v : Value} {ks : List ExprD} (h : KidsIn S W v ks) : KidsIn S' W' v ks := by
  rcases h with h | ⟨gk, ck, e, hc, hk⟩
  · exact .inl h
  · exact .inr ⟨gk, ck, e, hc, fun i k hi => (hk i k hi).keep hS hb⟩
def New (w w' : World) (k : Nat) : Prop := w.heap.size ≤ k ∧ k < w'.heap.size
theorem kin_shape {S : Nat → Prop} {W : World} {v : Value} {ks : List ExprD} (h : KidsIn S W v ks) : ∃ p c, v = .slice p ks.length c := by
  rcases h with ⟨e, e2⟩ | ⟨g, c, e, _⟩
  · subst e2; exact ⟨_, _, e⟩
  · exact ⟨_, _, e⟩
theorem zcells {W : World} {z : Nat} {x y u : Value} {t : TypeId} (h : W.heap[z]? = some (.cells #[x, y, u] t (0, 0))) : W.cell? ⟨z, 0, none⟩ = some x ∧ W.cell? ⟨z, 1, none⟩ = some y ∧ W.cell? ⟨z, 2, none⟩ = some u ∧ ∀ j, W.frozen? ⟨z, j, none⟩ = false := by
  simp [World.cell?, World.frozen?, h]
theorem set3 {W : World} {z : Nat} {x y u : Value} {t : TypeId} (h : W.heap[z]? = some (.cells #[x, y, u] t (0, 0))) (a b c : Value) : (((W.setCell ⟨z, 0, none⟩ a).setCell ⟨z, 1, none⟩ b).setCell ⟨z, 2, none⟩ c).heap[z]? = some (.cells #[a, b, c] t (0, 0)) ∧ ∀ k, k ≠ z → (((W.setCell ⟨z, 0, none⟩ a).setCell ⟨z, 1, none⟩ b).setCell ⟨z, 2, none⟩ c).heap[k]? = W.heap[k]? := by
  have st : ∀ (V : World) (cs : Array Value) (j : Nat) (v : Value), V.heap[z]? = some (.cells cs t (0, 0)) → (V.setCell ⟨z, j, none⟩ v).heap[z]? = some (.cells (cs.set! j v) t (0, 0)) := by
    intro V cs j v hV
    obtain ⟨hlt, hk⟩ := Array.getElem?_eq_some_iff.1 hV
    show (V.heap.modify z _)[z]? = _
    rw [Array.getElem?_eq_getElem (by rw [Array.size_modify]; exact hlt), Array.getElem_modify_self, hk]
    rfl
  have ot : ∀ (V : World) (j : Nat) (v : Value) (k : Nat), k ≠ z → (V.setCell ⟨z, j, none⟩ v).heap[k]? = V.heap[k]? := by
    intro V j v k hk
    show (V.heap.modify z _)[k]? = _
    rw [Array.getElem?_modify, if_neg (fun e => hk e.symm)]
  refine ⟨st _ _ 2 c (st _ _ 1 b (st _ _ 0 a h)), fun k hk => ?_⟩
  rw [ot _ _ _ k hk, ot _ _ _ k hk, ot _ _ _ k hk]
theorem Tryz.info106 : (Tryz.prog.info? 106).map (fun i => (i.zero, i.size, i.bytes)) = some (some (.agg #[.int .i64 0, .string ⟨#[]⟩, .slice none 0 0]), 3, 48) := by kernel_rfl
theorem Tryz.underlying104' : Tryz.prog.underlying 104 = some (.slice 106) := by kernel_rfl
def KRow (S : Nat → Prop) (W : World) (xs : List Value) (ks : List ExprD) : Prop := ∀ (j : Nat) (k : ExprD), ks[j]? = some k → ∃ (op : Int) (s : ByteArray) (v : Value) (q : List ExprD), k = .mk op s.data.toList q ∧ s.size ≤ 1000000000 ∧ xs[j * 3]? = some (.int .i64 op) ∧ xs[j * 3 + 1]? = some (.string s) ∧ xs[j * 3 + 2]? = some v ∧ KidsIn S W v q
theorem KRow.keep {S S' : Nat → Prop} {W W' : World} (hS : ∀ k, S k → S' k) (hb : ∀ k, S k → W'.heap[k]? = W.heap[k]?) {xs : List Value} {ks : List ExprD} (h : KRow S W xs ks) : KRow S' W' xs ks := fun j k hj => by
  obtain ⟨op, s, v, q, a, b, c, d, e, f⟩ := h j k hj
  exact ⟨op, s, v, q, a, b, c, d, e, f.keep hS hb⟩
theorem KRow.snoc {S : Nat → Prop} {W : World} {xs : List Value} {ks : List ExprD} (h : KRow S W xs ks) (hl : xs.length = ks.length * 3) {op : Int} {s : ByteArray} {v : Value} {q : List ExprD} (hs : s.size ≤ 1000000000) (hk : KidsIn S W v q) : KRow S W (xs ++ [.int .i64 op, .string s, v]) (ks ++ [.mk op s.data.toList q]) := fun j k hj => by
  have hjl := (List.getElem?_eq_some_iff.1 hj).1
  simp only [List.length_append, List.length_singleton] at hjl
  rcases Nat.lt_or_ge j ks.length with h1 | h1
  · rw [List.getElem?_append_left h1] at hj
    obtain ⟨op', s', v', q', a, b, c, d, e, f⟩ := h j k hj
    exact ⟨op', s', v', q', a, b, by rw [List.getElem?_append_left (by omega)]; exact c, by rw [List.getElem?_append_left (by omega)]; exact d, by rw [List.getElem?_append_left (by omega)]; exact e, f⟩
  · have hje : j = ks.length := by omega
    subst hje
    rw [List.getElem?_append_right (Nat.le_refl _), Nat.sub_self] at hj
    cases hj
    have e0 : ks.length * 3 - xs.length = 0 := by omega
    have e1 : ks.length * 3 + 1 - xs.length = 1 := by omega
    have e2 : ks.length * 3 + 2 - xs.length = 2 := by omega
    exact ⟨op, s, v, q, rfl, hs, by rw [List.getElem?_append_right (by omega), e0]; rfl, by rw [List.getElem?_append_right (by omega), e1]; rfl, by rw [List.getElem?_append_right (by omega), e2]; rfl, hk⟩
theorem own3_cell {B t n g c : Nat} {W : World} {xs : List Value} (h : W.ownsRow B t 3 (.slice (some ⟨g, 0, none⟩) n c) n xs) {i : Nat} {u : Value} (hu : xs[i]? = some u) : W.cell? ⟨g, i, none⟩ = some u := by
  rcases h.2 with ⟨e, _⟩ | ⟨g', c', cur, e, _, hg, _, _, _, hct⟩
  · cases e
  · cases e
    rw [cell_of_row _ _ _ _ _ _ hg]
    rw [← hct, List.getElem?_take] at hu
    split at hu
    · rw [Array.getElem?_toList] at hu
      exact hu
    · cases hu
theorem KRow.kids {S : Nat → Prop} {W : World} {B t n : Nat} {v : Value} {xs : List Value} {ks : List ExprD} (h : KRow S W xs ks) (ho : W.ownsRow B t 3 v n xs) (hn : n = ks.length) (hv : ∀ g, v.ownBlock = some g → S g) : KidsIn S W v ks := by
  subst hn
  rcases ho.2 with ⟨e, h0⟩ | ⟨g, c, cur, rfl, _, _, hc, _⟩
  · exact .inl ⟨e, List.eq_nil_of_length_eq_zero h0⟩
  · refine .inr ⟨g, c, rfl, hc, fun i k hi => ?_⟩
    obtain ⟨op, s, v, q, rfl, hs, c0, c1, c2, hk⟩ := h i k hi
    rcases hk with ⟨rfl, rfl⟩ | ⟨gk, ck, rfl, hck, hkk⟩
    · exact .nil g (i * 3) op s (hv g rfl) (own3_cell ho c0) (own3_cell ho c1) (own3_cell ho c2) hs
    · exact .row g (i * 3) op s gk ck q (hv g rfl) (own3_cell ho c0) (own3_cell ho c1) (own3_cell ho c2) hs hck hkk
theorem own3_shape {W : World} {B t n : Nat} {v : Value} {xs : List Value} (h : W.ownsRow B t 3 v n xs) : ∃ a c, v = .slice a n c := by
  rcases h.2 with ⟨e, h0⟩ | ⟨g, c, cur, e, _⟩
  · exact ⟨_, _, by rw [e, h0]⟩
  · exact ⟨_, _, e⟩
theorem news_at (W : World) (z : Nat) (hz : W.heap.size = z) (x y u : Value) (t : TypeId) : ∀ (j : Nat) (r : Value), [x, y, u][j]? = some r → (W.alloc (.cells #[x, y, u] t)).cell? ((⟨z, 0, none⟩ : Addr).add j) = some r := by
  subst hz
  exact World.news_of_block (cs := #[x, y, u]) (World.alloc_heap_new W _)

end Go.Proofs.YtjbdoeoimodhkaaGreatDoor
