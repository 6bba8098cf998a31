/- Tests: what one is, how it is read, and the law's copy of it. -/
import Derived.Test.YtaokjoiklcikjaaRows
import Derived.WalkKit
import Derived.ProofKit
import Derived.Maps.AppendAt
import Derived.Outline
import Derived.BigQuiet
import Derived.Below
import Derived.Deep.QuietTactic
import Derived.Deep.AppendLies
import Derived.Deep.RegionLaw
import Derived.RangeFuncBox
import Derived.Laws.AppendOwn
import Derived.Laws.OwnMore
import Derived.Laws.Rows
namespace Go.Proofs.Ytaokjoiklcikjaa
open Go.RowKit Go.Maps

def Hid (p : Prop) : Prop := p
theorem hide {p : Prop} (h : p) : Hid p := h
theorem Hid.out {p : Prop} (h : Hid p) : p := h
theorem row_keep {W W' : World} {B t sz n : Nat} {v : Value} {xs : List Value} (h : W.ownsRow B t sz v n xs) (hk : ∀ (k : Nat) (c : Array Value), W.heap[k]? = some (.cells c t (0, 0)) → v.ownBlock = some k → W'.heap[k]? = some (.cells c t (0, 0))) : W'.ownsRow B t sz v n xs := by
  refine ⟨h.1, ?_⟩
  rcases h.2 with h2 | ⟨g, cap, cur, e, hbb, hg, r⟩
  · exact .inl h2
  · exact .inr ⟨g, cap, cur, e, hbb, hk g cur hg (by rw [e]; rfl), r⟩
theorem set_size (W : World) (p : Addr) (u : Value) : (W.setCell p u).heap.size = W.heap.size := by
  show (W.heap.modify _ _).size = _
  rw [Array.size_modify]
theorem own_cells {B t size n g : Nat} {W : World} {v : Value} {xs : List Value} (ho : W.ownsRow B t size v n xs) (hg : v.ownBlock = some g) : B ≤ g ∧ ∃ cur, W.heap[g]? = some (.cells cur t (0, 0)) := by
  rcases ho.2 with ⟨rfl, _⟩ | ⟨g', cap, cur, rfl, hb, h, _⟩
  · cases hg
  · cases hg; exact ⟨hb, cur, h⟩
theorem own_lt {W : World} {B t sz n g : Nat} {v : Value} {xs : List Value} (h : W.ownsRow B t sz v n xs) (hg : v.ownBlock = some g) : g < W.heap.size := by
  obtain ⟨_, cur, hc⟩ := own_cells h hg
  exact (Array.getElem?_eq_some_iff.1 hc).1
theorem at_block (a : Addr) (n : Nat) : (a.add n).block = a.block := by unfold Addr.add; split <;> rfl
theorem cell_same {W W' : World} {p : Addr} (h : W'.heap[p.block]? = W.heap[p.block]?) : W'.cell? p = W.cell? p := by
  unfold World.cell?
  rw [h]
/-- What a Test is. -/
inductive TestD : Type
  | mk (op tx : ByteArray) (nu sg : Int) (ks : List TestD)
instance : Inhabited TestD := ⟨.mk ⟨#[]⟩ ⟨#[]⟩ 0 0 []⟩
mutual
def nodes : TestD → Nat
  | .mk _ _ _ _ ks => 1 + nodesL ks
def nodesL : List TestD → Nat
  | [] => 0
  | k :: r => nodes k + nodesL r
end
theorem nodes_mem {k : TestD} : ∀ {ks : List TestD}, k ∈ ks → nodes k ≤ nodesL ks := by
  intro ks
  induction ks with
  | nil => intro h; cases h
  | cons x r ih =>
    intro h
    rw [nodesL]
    rcases List.mem_cons.1 h with rfl | h
    · omega
    · have := ih h; omega
theorem len_nodes (ks : List TestD) : ks.length ≤ nodesL ks := by
  induction ks with
  | nil => rw [nodesL]; exact Nat.le_refl _
  | cons x r ih => rw [nodesL, List.length_cons]; obtain ⟨op, tx, nu, sg, ks⟩ := x; rw [nodes]; omega
/-- A Test that is read, wherever it lies, in blocks below B. -/
inductive ERd (B : Nat) (W : World) : Addr → TestD → Prop
  | nil (p : Addr) (op tx : ByteArray) (nu sg : Int) (hg : p.block < B) (h0 : W.cell? p = some (.string op)) (h1 : W.cell? (p.add 1) = some (.string tx)) (h2 : W.cell? (p.add 2) = some (.int .i64 nu)) (h3 : W.cell? (p.add 3) = some (.int .i64 sg)) (h4 : W.cell? (p.add 4) = some (.slice none 0 0)) : ERd B W p (.mk op tx nu sg [])
  | row (p : Addr) (op tx : ByteArray) (nu sg : Int) (a : Addr) (ck : Nat) (ks : List TestD) (hg : p.block < B) (h0 : W.cell? p = some (.string op)) (h1 : W.cell? (p.add 1) = some (.string tx)) (h2 : W.cell? (p.add 2) = some (.int .i64 nu)) (h3 : W.cell? (p.add 3) = some (.int .i64 sg)) (h4 : W.cell? (p.add 4) = some (.slice (some a) ks.length ck)) (hc : ks.length ≤ ck)
      (hk : ∀ (i : Nat) (k : TestD), ks[i]? = some k → ERd B W (a.add (i * 5)) k) : ERd B W p (.mk op tx nu sg ks)
theorem cell_b {B : Nat} {W W' : World} (hb : Below B W W') {p : Addr} {v : Value} (hg : p.block < B) (h : W.cell? p = some v) : W'.cell? p = some v := (cell_same (hb.block _ hg)).trans h
theorem ERd.keep {B : Nat} {W W' : World} (hb : Below B W W') {p : Addr} {e : TestD} (h : ERd B W p e) : ERd B W' p e := by
  induction h with
  | nil p op tx nu sg hg h0 h1 h2 h3 h4 => exact .nil p op tx nu sg hg (cell_b hb hg h0) (cell_b hb (by rw [at_block]; exact hg) h1) (cell_b hb (by rw [at_block]; exact hg) h2) (cell_b hb (by rw [at_block]; exact hg) h3) (cell_b hb (by rw [at_block]; exact hg) h4)
  | row p op tx nu sg a ck ks hg h0 h1 h2 h3 h4 hck _ ih => exact .row p op tx nu sg a ck ks hg (cell_b hb hg h0) (cell_b hb (by rw [at_block]; exact hg) h1) (cell_b hb (by rw [at_block]; exact hg) h2) (cell_b hb (by rw [at_block]; exact hg) h3) (cell_b hb (by rw [at_block]; exact hg) h4) hck ih
theorem ERd.more {B B' : Nat} {W : World} (hB : B ≤ B') {p : Addr} {e : TestD} (h : ERd B W p e) : ERd B' W p e := by
  induction h with
  | nil p op tx nu sg hg h0 h1 h2 h3 h4 => exact .nil p op tx nu sg (by omega) h0 h1 h2 h3 h4
  | row p op tx nu sg a ck ks hg h0 h1 h2 h3 h4 hck _ ih => exact .row p op tx nu sg a ck ks (by omega) h0 h1 h2 h3 h4 hck ih
/-- The Kids of one. -/
def KRd (B : Nat) (W : World) (v : Value) (ks : List TestD) : Prop := (v = .slice none 0 0 ∧ ks = []) ∨ ∃ (gk : Addr) (ck : Nat), v = .slice (some gk) ks.length ck ∧ ks.length ≤ ck ∧ ∀ (i : Nat) (k : TestD), ks[i]? = some k → ERd B W (gk.add (i * 5)) k
theorem KRd.below {B : Nat} {W W' : World} (hb : Below B W W') {v : Value} {ks : List TestD} (h : KRd B W v ks) : KRd B W' v ks := by
  rcases h with h | ⟨gk, ck, h1, h2, h3⟩
  · exact .inl h
  · exact .inr ⟨gk, ck, h1, h2, fun i k hk => (h3 i k hk).keep hb⟩
theorem KRd.wide {B B' : Nat} {W : World} {v : Value} {ks : List TestD} (h : KRd B W v ks) (hB : B ≤ B') : KRd B' W v ks := by
  rcases h with h | ⟨gk, ck, h1, h2, h3⟩
  · exact .inl h
  · exact .inr ⟨gk, ck, h1, h2, fun i k hk => (h3 i k hk).more hB⟩
theorem kids_shape {B : Nat} {W : World} {v : Value} {ks : List TestD} (h : KRd B W v ks) : ∃ p c, v = .slice p ks.length c := by
  rcases h with ⟨e, e2⟩ | ⟨g, c, e, _⟩
  · subst e2; exact ⟨_, _, e⟩
  · exact ⟨_, _, e⟩
theorem kid_val {B : Nat} {W : World} {a : Addr} {k : TestD} (h : ERd B W a k) : ∃ (op tx : ByteArray) (nu sg : Int) (q : List TestD) (p : Option Addr) (c : Nat), k = .mk op tx nu sg q ∧ W.cell? a = some (.string op) ∧ W.cell? ⟨a.block, a.off + 1, none⟩ = some (.string tx) ∧ W.cell? ⟨a.block, a.off + 2, none⟩ = some (.int .i64 nu) ∧ W.cell? ⟨a.block, a.off + 3, none⟩ = some (.int .i64 sg) ∧ W.cell? ⟨a.block, a.off + 4, none⟩ = some (.slice p q.length c) ∧ KRd B W (.slice p q.length c) q := by
  cases h with
  | nil p op tx nu sg hg h0 h1 h2 h3 h4 => exact ⟨op, tx, nu, sg, [], none, 0, rfl, h0, h1, h2, h3, h4, .inl ⟨rfl, rfl⟩⟩
  | row p op tx nu sg b ck ks hg h0 h1 h2 h3 h4 hck hk => exact ⟨op, tx, nu, sg, ks, some b, ck, rfl, h0, h1, h2, h3, h4, .inr ⟨b, ck, rfl, hck, hk⟩⟩
/-- A Test in cells whose blocks are among some. -/
inductive ExprIn (S : Nat → Prop) (W : World) : Nat → Nat → TestD → Prop
  | nil (g o : Nat) (op tx : ByteArray) (nu sg : Int) (hg : S g) (h0 : W.cell? ⟨g, o, none⟩ = some (.string op)) (h1 : W.cell? ⟨g, o + 1, none⟩ = some (.string tx)) (h2 : W.cell? ⟨g, o + 2, none⟩ = some (.int .i64 nu)) (h3 : W.cell? ⟨g, o + 3, none⟩ = some (.int .i64 sg)) (h4 : W.cell? ⟨g, o + 4, none⟩ = some (.slice none 0 0)) : ExprIn S W g o (.mk op tx nu sg [])
  | row (g o : Nat) (op tx : ByteArray) (nu sg : Int) (gk ck : Nat) (ks : List TestD) (hg : S g) (h0 : W.cell? ⟨g, o, none⟩ = some (.string op)) (h1 : W.cell? ⟨g, o + 1, none⟩ = some (.string tx)) (h2 : W.cell? ⟨g, o + 2, none⟩ = some (.int .i64 nu)) (h3 : W.cell? ⟨g, o + 3, none⟩ = some (.int .i64 sg)) (h4 : W.cell? ⟨g, o + 4, none⟩ = some (.slice (some ⟨gk, 0, none⟩) ks.length ck)) (hp : 0 < ks.length) (hc : ks.length ≤ ck)
      (hk : ∀ (i : Nat) (k : TestD), ks[i]? = some k → ExprIn S W gk (i * 5) k) : ExprIn S W g o (.mk op tx nu sg ks)
theorem ExprIn.keep {S S' : Nat → Prop} {W W' : World} (hS : ∀ k, S k → S' k) (hb : ∀ k, S k → W'.heap[k]? = W.heap[k]?) {g o : Nat} {e : TestD} (h : ExprIn S W g o e) : ExprIn S' W' g o e := by
  induction h with
  | nil g o op tx nu sg hg h0 h1 h2 h3 h4 => exact .nil g o op tx nu sg (hS g hg) ((cell_same (p := ⟨g, o, none⟩) (hb g hg)).trans h0) ((cell_same (p := ⟨g, o + 1, none⟩) (hb g hg)).trans h1) ((cell_same (p := ⟨g, o + 2, none⟩) (hb g hg)).trans h2) ((cell_same (p := ⟨g, o + 3, none⟩) (hb g hg)).trans h3) ((cell_same (p := ⟨g, o + 4, none⟩) (hb g hg)).trans h4)
  | row g o op tx nu sg gk ck ks hg h0 h1 h2 h3 h4 hp hc _ ih => exact .row g o op tx nu sg gk ck ks (hS g hg) ((cell_same (p := ⟨g, o, none⟩) (hb g hg)).trans h0) ((cell_same (p := ⟨g, o + 1, none⟩) (hb g hg)).trans h1) ((cell_same (p := ⟨g, o + 2, none⟩) (hb g hg)).trans h2) ((cell_same (p := ⟨g, o + 3, none⟩) (hb g hg)).trans h3) ((cell_same (p := ⟨g, o + 4, none⟩) (hb g hg)).trans h4) hp hc ih
def KidsIn (S : Nat → Prop) (W : World) (v : Value) (ks : List TestD) : Prop := (v = .slice none 0 0 ∧ ks = []) ∨ ∃ gk ck, v = .slice (some ⟨gk, 0, none⟩) ks.length ck ∧ 0 < ks.length ∧ ks.length ≤ ck ∧ ∀ (i : Nat) (k : TestD), ks[i]? = some k → ExprIn S W gk (i * 5) k
theorem KidsIn.keep {S S' : Nat → Prop} {W W' : World} (hS : ∀ k, S k → S' k) (hb : ∀ k, S k → W'.heap[k]? = W.heap[k]?) {v : Value} {ks : List TestD} (h : KidsIn S W v ks) : KidsIn S' W' v ks := by
  rcases h with h | ⟨gk, ck, e, hp, hc, hk⟩
  · exact .inl h
  · exact .inr ⟨gk, ck, e, hp, hc, fun i k hi => (hk i k hi).keep hS hb⟩
def New (w w' : World) (k : Nat) : Prop := w.heap.size ≤ k ∧ k < w'.heap.size
def TestOK (e : TestD) : Prop := ∀ (B : Nat) (op tx : ByteArray) (nu sg : Int) (ks : List TestD) (v : Value) (w : World), e = .mk op tx nu sg ks → KRd B w v ks → B ≤ w.heap.size →
  Calls Try.prog 5 #[.agg #[.string op, .string tx, .int .i64 nu, .int .i64 sg, v]] w fun r w' => ∃ v', r = .returned (.agg #[.string op, .string tx, .int .i64 nu, .int .i64 sg, v']) ∧ KidsIn (New w w') w' v' ks ∧ Below w.heap.size w w'
def TestsOK (ks : List TestD) : Prop := ∀ (B : Nat) (v : Value) (w : World), KRd B w v ks → B ≤ w.heap.size →
  Calls Try.prog 8 #[v] w fun r w' => ∃ v', r = .returned v' ∧ KidsIn (New w w') w' v' ks ∧ Below w.heap.size w w'
theorem kin_shape {S : Nat → Prop} {W : World} {v : Value} {ks : List TestD} (h : KidsIn S W v ks) : ∃ p c, v = .slice p ks.length c := by
  rcases h with ⟨e, e2⟩ | ⟨g, c, e, _⟩
  · subst e2; exact ⟨_, _, e⟩
  · exact ⟨_, _, e⟩
def TBox (t : TypeId) (W : World) (z : Nat) (op tx : ByteArray) (nu sg : Int) (v : Value) : Prop := W.heap[z]? = some (.cells #[.string op, .string tx, .int .i64 nu, .int .i64 sg, v] t (0, 0))
theorem TBox.cells {t : TypeId} {W : World} {z : Nat} {op tx : ByteArray} {nu sg : Int} {v : Value} (h : TBox t W z op tx nu sg v) : W.cell? ⟨z, 0, none⟩ = some (.string op) ∧ W.cell? ⟨z, 1, none⟩ = some (.string tx) ∧ W.cell? ⟨z, 2, none⟩ = some (.int .i64 nu) ∧ W.cell? ⟨z, 3, none⟩ = some (.int .i64 sg) ∧ W.cell? ⟨z, 4, none⟩ = some v ∧ ∀ j, W.frozen? ⟨z, j, none⟩ = false := by
  unfold TBox at h
  simp [World.cell?, World.frozen?, h]
theorem tbox (t : TypeId) (w : World) (op tx : ByteArray) (nu sg : Int) (v : Value) : TBox t (w.alloc (.cells #[.string op, .string tx, .int .i64 nu, .int .i64 sg, v] t)) w.heap.size op tx nu sg v := World.alloc_heap_new w _
theorem set5 {W : World} {z : Nat} {t : TypeId} {cs : Array Value} (hs : cs.size = 5) (h : W.heap[z]? = some (.cells cs t (0, 0))) (a b c d e : Value) : (((((W.setCell ⟨z, 0, none⟩ a).setCell ⟨z, 1, none⟩ b).setCell ⟨z, 2, none⟩ c).setCell ⟨z, 3, none⟩ d).setCell ⟨z, 4, none⟩ e).heap[z]? = some (.cells #[a, b, c, d, e] t (0, 0)) ∧ ∀ k, k ≠ z → (((((W.setCell ⟨z, 0, none⟩ a).setCell ⟨z, 1, none⟩ b).setCell ⟨z, 2, none⟩ c).setCell ⟨z, 3, none⟩ d).setCell ⟨z, 4, none⟩ e).heap[k]? = W.heap[k]? := by
  have st : ∀ (V : World) (cs : Array Value) (j : Nat) (v : Value), V.heap[z]? = some (.cells cs t (0, 0)) → (V.setCell ⟨z, j, none⟩ v).heap[z]? = some (.cells (cs.set! j v) t (0, 0)) := by
    intro V cs j v hV
    obtain ⟨hlt, hk⟩ := Array.getElem?_eq_some_iff.1 hV
    show (V.heap.modify z _)[z]? = _
    rw [Array.getElem?_eq_getElem (by rw [Array.size_modify]; exact hlt), Array.getElem_modify_self, hk]
    rfl
  have ot : ∀ (V : World) (j : Nat) (v : Value) (k : Nat), k ≠ z → (V.setCell ⟨z, j, none⟩ v).heap[k]? = V.heap[k]? := by
    intro V j v k hk
    show (V.heap.modify z _)[k]? = _
    rw [Array.getElem?_modify, if_neg (fun e => hk e.symm)]
  refine ⟨?_, fun k hk => ?_⟩
  · have := st _ _ 4 e (st _ _ 3 d (st _ _ 2 c (st _ _ 1 b (st _ _ 0 a h))))
    have he : ∀ (cs : Array Value), cs.size = 5 → ((((cs.set! 0 a).set! 1 b).set! 2 c).set! 3 d).set! 4 e = #[a, b, c, d, e] := by
      rintro ⟨l⟩ hl
      match l, hl with
      | [_, _, _, _, _], _ => simp
    rw [he cs hs] at this
    exact this
  · rw [ot _ _ _ k hk, ot _ _ _ k hk, ot _ _ _ k hk, ot _ _ _ k hk, ot _ _ _ k hk]
theorem Try.zero28 (w : World) : (zeroValue 28).run Try.prog w = .ok (.agg #[.string ⟨#[]⟩, .string ⟨#[]⟩, .int .i64 0, .int .i64 0, .slice none 0 0]) w := by kernel_rfl
set_option maxRecDepth 100000 in
set_option maxHeartbeats 4000000 in
theorem test_of {op tx : ByteArray} {nu sg : Int} {ks : List TestD} (h : TestsOK ks) : TestOK (.mk op tx nu sg ks) := by
  rintro B _ _ _ _ _ v w ⟨⟩ hk hB
  obtain ⟨p, c, rfl⟩ := kids_shape hk
  have hb0 := tbox 24 w op tx nu sg (.slice p ks.length c)
  obtain ⟨b0, b1, b2, b3, b4, _⟩ := hb0.cells
  obtain ⟨W2, hW2⟩ : ∃ W2, (w.alloc (.cells #[.string op, .string tx, .int .i64 nu, .int .i64 sg, .slice p ks.length c] 24)).alloc (.cells #[.string ⟨#[]⟩, .string ⟨#[]⟩, .int .i64 0, .int .i64 0, .slice none 0 0] 28) = W2 := ⟨_, rfl⟩
  have hbl : Below w.heap.size w W2 := by rw [← hW2]; exact ((Below.refl _ _).alloc (Nat.le_refl _) _).alloc (by rw [World.size_alloc]; omega) _
  have hsz2 : W2.heap.size = w.heap.size + 2 := by rw [← hW2, World.size_alloc, World.size_alloc]
  have hE : TBox 24 W2 w.heap.size op tx nu sg (.slice p ks.length c) := by
    rw [← hW2]
    exact (Below.heap_alloc _ _ _ (by rw [World.size_alloc]; omega)).trans hb0
  have hz : TBox 28 W2 (w.heap.size + 1) ⟨#[]⟩ ⟨#[]⟩ 0 0 (.slice none 0 0) := by
    have := tbox 28 (w.alloc (.cells #[.string op, .string tx, .int .i64 nu, .int .i64 sg, .slice p ks.length c] 24)) ⟨#[]⟩ ⟨#[]⟩ 0 0 (.slice none 0 0)
    rw [hW2, World.size_alloc] at this
    exact this
  have hcall := h B _ W2 (hk.below (hbl.mono hB)) (by omega)
  have b4' := hE.cells.2.2.2.2.1
  have HE := hide hE
  have HZ := hide hz
  have HBL := hide hbl
  have HSZ := hide hsz2
  clear hk hb0 hE hz hbl hsz2 h b0 b1 b2 b3 b4
  go_enter Try.func5, Try.ntmps5
  go_wp2_with (go_at_call 8; refine hcall.mono ?_; rintro e w1 ⟨v', rfl, hkin, hb1⟩; have hlt1 : w.heap.size < W2.heap.size := (by have := HSZ.out; omega); have hlt2 : w.heap.size + 1 < W2.heap.size := (by have := HSZ.out; omega); have hE1 : TBox 24 w1 w.heap.size op tx nu sg (.slice p ks.length c) := (hb1.block _ hlt1).trans HE.out; obtain ⟨d0, d1, d2, d3, d4, _⟩ := hE1.cells; have hz1 : TBox 28 w1 (w.heap.size + 1) ⟨#[]⟩ ⟨#[]⟩ 0 0 (.slice none 0 0) := (hb1.block _ hlt2).trans HZ.out; obtain ⟨y0, y1, y2, y3, y4, yf⟩ := hz1.cells; have f0 := yf 0; have f1 := yf 1; have f2 := yf 2; have f3 := yf 3; have f4 := yf 4; obtain ⟨pa, pc, hpv⟩ := kin_shape hkin; subst hpv)
  obtain ⟨W4, hW4⟩ : ∃ W4, ((((w1.setCell ⟨w.heap.size + 1, 0, none⟩ (.string op)).setCell ⟨w.heap.size + 1, 1, none⟩ (.string tx)).setCell ⟨w.heap.size + 1, 2, none⟩ (.int .i64 nu)).setCell ⟨w.heap.size + 1, 3, none⟩ (.int .i64 sg)).setCell ⟨w.heap.size + 1, 4, none⟩ (.slice pa ks.length pc) = W4 := ⟨_, rfl⟩
  rw [hW4]
  obtain ⟨hz4, hb4⟩ := set5 (by rfl) hz1 (.string op) (.string tx) (.int .i64 nu) (.int .i64 sg) (.slice pa ks.length pc)
  rw [hW4] at hz4 hb4
  obtain ⟨q0, q1, q2, q3, q4, _⟩ := TBox.cells hz4
  have hsz14 : w1.heap.size = W4.heap.size := by rw [← hW4, set_size, set_size, set_size, set_size, set_size]
  have hsz := HSZ.out
  refine bodyPost_ret (v := .agg #[.string op, .string tx, .int .i64 nu, .int .i64 sg, .slice pa ks.length pc]) (by simp [results, Try.results5, go_sem, q0, q1, q2, q3, q4]) rfl ⟨_, rfl, hkin.keep (fun k hk => ⟨by have := hk.1; omega, by have := hk.2; omega⟩) (fun k hk => hb4 k (by have := hk.1; omega)), ?_⟩
  refine HBL.out.trans ⟨?_, ?_, ?_, by rw [← hsz14]; exact hb1.size, fun k hk => (hb4 k (by omega)).trans (hb1.block k (by omega))⟩
  · rw [← hW4]; exact hb1.os
  · rw [← hW4]; exact hb1.tape
  · rw [← hW4]; exact hb1.output
end Go.Proofs.Ytaokjoiklcikjaa
