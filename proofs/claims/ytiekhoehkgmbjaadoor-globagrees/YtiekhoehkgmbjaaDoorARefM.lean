/- The law's express: an Expr is copied into new memory. -/
import Derived.Test.YtiekhoehkgmbjaaDoorARefL
import Derived.Test.YtiekhoehkgmbjaaDoorALayA
namespace Go.Proofs.YtiekhoehkgmbjaaDoor
open Go.RowKit Go.Maps

/-- An Expr in cells whose blocks are among some. -/
inductive ExprIn (S : Nat → Prop) (W : World) : Nat → Nat → ExprD → Prop
  | nil (g o : Nat) (op : Int) (st : ByteArray) (hg : S g) (h0 : W.cell? ⟨g, o, none⟩ = some (.int .i64 op)) (h1 : W.cell? ⟨g, o + 1, none⟩ = some (.string st)) (h2 : W.cell? ⟨g, o + 2, none⟩ = some (.slice none 0 0)) (hs : st.size ≤ 1000000000) : ExprIn S W g o (.mk op st.data.toList [])
  | row (g o : Nat) (op : Int) (st : ByteArray) (gk ck : Nat) (ks : List ExprD) (hg : S g) (h0 : W.cell? ⟨g, o, none⟩ = some (.int .i64 op)) (h1 : W.cell? ⟨g, o + 1, none⟩ = some (.string st)) (h2 : W.cell? ⟨g, o + 2, none⟩ = some (.slice (some ⟨gk, 0, none⟩) ks.length ck)) (hs : st.size ≤ 1000000000) (hc : ks.length ≤ ck)
      (hk : ∀ (i : Nat) (k : ExprD), ks[i]? = some k → ExprIn S W gk (i * 3) k) : ExprIn S W g o (.mk op st.data.toList ks)
theorem cell_same {W W' : World} {p : Addr} (h : W'.heap[p.block]? = W.heap[p.block]?) : W'.cell? p = W.cell? p := by
  unfold World.cell?
  rw [h]
theorem ExprIn.keep {S S' : Nat → Prop} {W W' : World} (hS : ∀ k, S k → S' k) (hb : ∀ k, S k → W'.heap[k]? = W.heap[k]?) {g o : Nat} {e : ExprD} (h : ExprIn S W g o e) : ExprIn S' W' g o e := by
  induction h with
  | nil g o op st hg h0 h1 h2 hs => exact .nil g o op st (hS g hg) ((cell_same (p := ⟨g, o, none⟩) (hb g hg)).trans h0) ((cell_same (p := ⟨g, o + 1, none⟩) (hb g hg)).trans h1) ((cell_same (p := ⟨g, o + 2, none⟩) (hb g hg)).trans h2) hs
  | row g o op st gk ck ks hg h0 h1 h2 hs hc _ ih => exact .row g o op st gk ck ks (hS g hg) ((cell_same (p := ⟨g, o, none⟩) (hb g hg)).trans h0) ((cell_same (p := ⟨g, o + 1, none⟩) (hb g hg)).trans h1) ((cell_same (p := ⟨g, o + 2, none⟩) (hb g hg)).trans h2) hs hc ih
theorem ExprIn.at_ {S : Nat → Prop} {B : Nat} {W : World} (hS : ∀ k, S k → k < B) {g o : Nat} {e : ExprD} (h : ExprIn S W g o e) : ExprAt B W g o e := by
  induction h with
  | nil g o op st hg h0 h1 h2 hs => exact .nil g o op st (hS g hg) h0 h1 h2 hs
  | row g o op st gk ck ks hg h0 h1 h2 hs hc _ ih => exact .row g o op st gk ck ks (hS g hg) h0 h1 h2 hs hc ih
def KidsIn (S : Nat → Prop) (W : World) (v : Value) (ks : List ExprD) : Prop := (v = .slice none 0 0 ∧ ks = []) ∨ ∃ gk ck, v = .slice (some ⟨gk, 0, none⟩) ks.length ck ∧ ks.length ≤ ck ∧ ∀ (i : Nat) (k : ExprD), ks[i]? = some k → ExprIn S W gk (i * 3) k
theorem KidsIn.keep {S S' : Nat → Prop} {W W' : World} (hS : ∀ k, S k → S' k) (hb : ∀ k, S k → W'.heap[k]? = W.heap[k]?) {v : Value} {ks : List ExprD} (h : KidsIn S W v ks) : KidsIn S' W' v ks := by
  rcases h with h | ⟨gk, ck, e, hc, hk⟩
  · exact .inl h
  · exact .inr ⟨gk, ck, e, hc, fun i k hi => (hk i k hi).keep hS hb⟩
theorem KidsIn.at_ {S : Nat → Prop} {B : Nat} {W : World} (hS : ∀ k, S k → k < B) {v : Value} {ks : List ExprD} (h : KidsIn S W v ks) : KidsAt B W v ks := by
  rcases h with h | ⟨gk, ck, e, hc, hk⟩
  · exact .inl h
  · exact .inr ⟨gk, ck, e, hc, fun i k hi => (hk i k hi).at_ hS⟩
def New (w w' : World) (k : Nat) : Prop := w.heap.size ≤ k ∧ k < w'.heap.size
def ExpressOK (e : ExprD) : Prop := ∀ (B : Nat) (op : Int) (s : ByteArray) (ks : List ExprD) (v : Value) (w : World), e = .mk op s.data.toList ks → s.size ≤ 1000000000 → KRd B w v ks → B ≤ w.heap.size →
  Calls Tryd.prog 10 #[.agg #[.int .i64 op, .string s, v]] w fun r w' => ∃ v', r = .returned (.agg #[.int .i64 op, .string s, v']) ∧ KidsIn (New w w') w' v' ks ∧ Below w.heap.size w w'
def ExprsOK (ks : List ExprD) : Prop := ∀ (B : Nat) (v : Value) (w : World), KRd B w v ks → B ≤ w.heap.size →
  Calls Tryd.prog 22 #[v] w fun r w' => ∃ v', r = .returned v' ∧ KidsIn (New w w') w' v' ks ∧ Below w.heap.size w w'
theorem kin_shape {S : Nat → Prop} {W : World} {v : Value} {ks : List ExprD} (h : KidsIn S W v ks) : ∃ p c, v = .slice p ks.length c := by
  rcases h with ⟨e, e2⟩ | ⟨g, c, e, _⟩
  · subst e2; exact ⟨_, _, e⟩
  · exact ⟨_, _, e⟩
theorem zcells {W : World} {z : Nat} {x y u : Value} {t : TypeId} (h : W.heap[z]? = some (.cells #[x, y, u] t (0, 0))) : W.cell? ⟨z, 0, none⟩ = some x ∧ W.cell? ⟨z, 1, none⟩ = some y ∧ W.cell? ⟨z, 2, none⟩ = some u ∧ ∀ j, W.frozen? ⟨z, j, none⟩ = false := by
  simp [World.cell?, World.frozen?, h]
theorem set3 {W : World} {z : Nat} {x y u : Value} {t : TypeId} (h : W.heap[z]? = some (.cells #[x, y, u] t (0, 0))) (a b c : Value) : (((W.setCell ⟨z, 0, none⟩ a).setCell ⟨z, 1, none⟩ b).setCell ⟨z, 2, none⟩ c).heap[z]? = some (.cells #[a, b, c] t (0, 0)) ∧ ∀ k, k ≠ z → (((W.setCell ⟨z, 0, none⟩ a).setCell ⟨z, 1, none⟩ b).setCell ⟨z, 2, none⟩ c).heap[k]? = W.heap[k]? := by
  have st : ∀ (V : World) (cs : Array Value) (j : Nat) (v : Value), V.heap[z]? = some (.cells cs t (0, 0)) → (V.setCell ⟨z, j, none⟩ v).heap[z]? = some (.cells (cs.set! j v) t (0, 0)) := by
    intro V cs j v hV
    obtain ⟨hlt, hk⟩ := Array.getElem?_eq_some_iff.1 hV
    show (V.heap.modify z _)[z]? = _
    rw [Array.getElem?_eq_getElem (by rw [Array.size_modify]; exact hlt), Array.getElem_modify_self, hk]
    rfl
  have ot : ∀ (V : World) (j : Nat) (v : Value) (k : Nat), k ≠ z → (V.setCell ⟨z, j, none⟩ v).heap[k]? = V.heap[k]? := by
    intro V j v k hk
    show (V.heap.modify z _)[k]? = _
    rw [Array.getElem?_modify, if_neg (fun e => hk e.symm)]
  refine ⟨st _ _ 2 c (st _ _ 1 b (st _ _ 0 a h)), fun k hk => ?_⟩
  rw [ot _ _ _ k hk, ot _ _ _ k hk, ot _ _ _ k hk]
theorem Tryd.zero28 (w : World) : (zeroValue 28).run Tryd.prog w = .ok (.agg #[.int .i64 0, .string ⟨#[]⟩, .slice none 0 0]) w := by kernel_rfl
set_option maxRecDepth 100000 in
set_option maxHeartbeats 4000000 in
theorem express_of {op : Int} {tx : List UInt8} {ks : List ExprD} (h : ExprsOK ks) : ExpressOK (.mk op tx ks) := by
  rintro B _ s _ v w ⟨⟩ hs hk hB
  obtain ⟨p, c, rfl⟩ := kids_shape hk
  have hb0 : EBox (w.alloc (.cells #[.int .i64 op, .string s, .slice p ks.length c] 24)) w.heap.size op s (.slice p ks.length c) := ebox w op s (.slice p ks.length c)
  obtain ⟨b0, b1, b2⟩ := hb0.cells
  obtain ⟨W2, hW2⟩ : ∃ W2, (w.alloc (.cells #[.int .i64 op, .string s, .slice p ks.length c] 24)).alloc (.cells #[.int .i64 0, .string ⟨#[]⟩, .slice none 0 0] 28) = W2 := ⟨_, rfl⟩
  have hbl : Below w.heap.size w W2 := by rw [← hW2]; exact ((Below.refl _ _).alloc (Nat.le_refl _) _).alloc (by rw [World.size_alloc]; omega) _
  have hsz2 : W2.heap.size = w.heap.size + 2 := by rw [← hW2, World.size_alloc, World.size_alloc]
  have hE : EBox W2 w.heap.size op s (.slice p ks.length c) := by
    rw [← hW2]
    exact (Below.heap_alloc _ _ _ (by rw [World.size_alloc]; omega)).trans hb0
  have hz : W2.heap[w.heap.size + 1]? = some (.cells #[.int .i64 0, .string ⟨#[]⟩, .slice none 0 0] 28 (0, 0)) := by
    have := World.alloc_heap_new (w.alloc (.cells #[.int .i64 op, .string s, .slice p ks.length c] 24)) (.cells #[.int .i64 0, .string ⟨#[]⟩, .slice none 0 0] 28)
    rw [hW2, World.size_alloc] at this
    exact this
  have hcall := h B _ W2 (hk.below (hbl.mono hB)) (by omega)
  have b2' := hE.cells.2.2
  have HE := hide hE
  have HZ := hide hz
  have HBL := hide hbl
  have HSZ := hide hsz2
  clear hk hb0 hE hz hbl hsz2 h b0 b1 b2
  go_enter Tryd.func10, Tryd.ntmps10
  go_wp2_with (go_at_call 22; refine hcall.mono ?_; rintro e w1 ⟨v', rfl, hkin, hb1⟩; have hlt1 : w.heap.size < W2.heap.size := (by have := HSZ.out; omega); have hlt2 : w.heap.size + 1 < W2.heap.size := (by have := HSZ.out; omega); have hE1 : EBox w1 w.heap.size op s (.slice p ks.length c) := (hb1.block _ hlt1).trans HE.out; obtain ⟨d0, d1, d2⟩ := hE1.cells; have hz1 := (hb1.block _ hlt2).trans HZ.out; obtain ⟨y0, y1, y2, yf⟩ := zcells hz1; have f0 := yf 0; have f1 := yf 1; have f2 := yf 2; obtain ⟨pa, pc, hpv⟩ := kin_shape hkin; subst hpv)
  obtain ⟨W4, hW4⟩ : ∃ W4, ((w1.setCell ⟨w.heap.size + 1, 0, none⟩ (.int .i64 op)).setCell ⟨w.heap.size + 1, 1, none⟩ (.string s)).setCell ⟨w.heap.size + 1, 2, none⟩ (.slice pa ks.length pc) = W4 := ⟨_, rfl⟩
  rw [hW4]
  obtain ⟨hz4, hb4⟩ := set3 hz1 (.int .i64 op) (.string s) (.slice pa ks.length pc)
  rw [hW4] at hz4 hb4
  obtain ⟨q0, q1, q2, _⟩ := zcells hz4
  have hsz14 : w1.heap.size = W4.heap.size := by rw [← hW4, set_size, set_size, set_size]
  have hsz := HSZ.out
  refine bodyPost_ret (v := .agg #[.int .i64 op, .string s, .slice pa ks.length pc]) (by simp [results, Tryd.results10, go_sem, q0, q1, q2]) rfl ⟨_, rfl, hkin.keep (fun k hk => ⟨by have := hk.1; omega, by have := hk.2; omega⟩) (fun k hk => hb4 k (by have := hk.1; omega)), ?_⟩
  refine HBL.out.trans ⟨?_, ?_, ?_, by rw [← hsz14]; exact hb1.size, fun k hk => (hb4 k (by omega)).trans (hb1.block k (by omega))⟩
  · rw [← hW4]; exact hb1.os
  · rw [← hW4]; exact hb1.tape
  · rw [← hW4]; exact hb1.output
end Go.Proofs.YtiekhoehkgmbjaaDoor
