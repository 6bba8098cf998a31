/- The builder: bytesOf, layChoice, layRow. -/
import Derived.Test.YtjbdoeoimodhkaaGreatDoorABld
namespace Go.Proofs.YtjbdoeoimodhkaaGreatDoor
open Go.RowKit Go.Maps

/-- An Expr in memory, in blocks below B. -/
inductive ExprAt (B : Nat) (W : World) : Nat → Nat → ExprD → Prop
  | nil (g o : Nat) (op : Int) (st : ByteArray) (hg : g < B) (h0 : W.cell? ⟨g, o, none⟩ = some (.int .i64 op)) (h1 : W.cell? ⟨g, o + 1, none⟩ = some (.string st)) (h2 : W.cell? ⟨g, o + 2, none⟩ = some (.slice none 0 0)) (hs : st.size ≤ 1000000000) : ExprAt B W g o (.mk op st.data.toList [])
  | row (g o : Nat) (op : Int) (st : ByteArray) (gk ck : Nat) (ks : List ExprD) (hg : g < B) (h0 : W.cell? ⟨g, o, none⟩ = some (.int .i64 op)) (h1 : W.cell? ⟨g, o + 1, none⟩ = some (.string st)) (h2 : W.cell? ⟨g, o + 2, none⟩ = some (.slice (some ⟨gk, 0, none⟩) ks.length ck)) (hs : st.size ≤ 1000000000) (hck : ks.length ≤ ck)
      (hk : ∀ (i : Nat) (k : ExprD), ks[i]? = some k → ExprAt B W gk (i * 3) k) : ExprAt B W g o (.mk op st.data.toList ks)
theorem ExprAt.keep {B : Nat} {W W' : World} (hb : Below B W W') {g o : Nat} {e : ExprD} (h : ExprAt B W g o e) : ExprAt B W' g o e := by
  induction h with
  | nil g o op st hg h0 h1 h2 hs => exact .nil g o op st hg ((hb.cell (p := ⟨g, _, none⟩) hg).trans h0) ((hb.cell (p := ⟨g, _, none⟩) hg).trans h1) ((hb.cell (p := ⟨g, _, none⟩) hg).trans h2) hs
  | row g o op st gk ck ks hg h0 h1 h2 hs hck _ ih => exact .row g o op st gk ck ks hg ((hb.cell (p := ⟨g, _, none⟩) hg).trans h0) ((hb.cell (p := ⟨g, _, none⟩) hg).trans h1) ((hb.cell (p := ⟨g, _, none⟩) hg).trans h2) hs hck ih
/-- The Kids of one. -/
def KidsAt (B : Nat) (W : World) (v : Value) (ks : List ExprD) : Prop := (v = .slice none 0 0 ∧ ks = []) ∨ ∃ gk ck, v = .slice (some ⟨gk, 0, none⟩) ks.length ck ∧ ks.length ≤ ck ∧ ∀ (i : Nat) (k : ExprD), ks[i]? = some k → ExprAt B W gk (i * 3) k
theorem KidsAt.below {B : Nat} {W W' : World} (hb : Below B W W') {v : Value} {ks : List ExprD} (h : KidsAt B W v ks) : KidsAt B W' v ks := by
  rcases h with h | ⟨gk, ck, h1, h2, h3⟩
  · exact .inl h
  · exact .inr ⟨gk, ck, h1, h2, fun i k hk => (h3 i k hk).keep hb⟩
theorem ExprAt.inv {B : Nat} {W : World} {g o : Nat} {op : Int} {st : List UInt8} {ks : List ExprD} (h : ExprAt B W g o (.mk op st ks)) : g < B ∧ W.cell? ⟨g, o, none⟩ = some (.int .i64 op) ∧ (∃ s : ByteArray, s.data.toList = st ∧ s.size ≤ 1000000000 ∧ W.cell? ⟨g, o + 1, none⟩ = some (.string s)) ∧ ∃ v, W.cell? ⟨g, o + 2, none⟩ = some v ∧ KidsAt B W v ks := by
  cases h with
  | nil g o op st hg h0 h1 h2 hs => exact ⟨hg, h0, ⟨st, rfl, hs, h1⟩, _, h2, .inl ⟨rfl, rfl⟩⟩
  | row g o op st gk ck ks hg h0 h1 h2 hs hck hk => exact ⟨hg, h0, ⟨st, rfl, hs, h1⟩, _, h2, .inr ⟨gk, ck, rfl, hck, hk⟩⟩
set_option maxRecDepth 100000 in
set_option maxHeartbeats 1000000 in
theorem bytesOf_any (t : ByteArray) (w : World) (ht : t.size ≤ 1000000000) :
    Calls Tryz.prog 140 #[.string t] w fun e w' => ∃ v, e = .returned v ∧ SetRow w.heap.size w' v (wordsOf t.data.toList) ∧ Below w.heap.size w w' := by
  go_enter Tryz.func140, Tryz.ntmps140
  go_wp2_with (go_at_call 92; refine (newSet_any 256 _ (by decide)).mono ?_; rintro e w1 ⟨v, rfl, hs, hb⟩)
  obtain ⟨g, cap, hv, hB, hg⟩ := hs.form (by decide)
  have hv4 : v = .slice (some ⟨g, 0, none⟩) 4 cap := hv
  subst hv4
  clear hv
  have e4 : (List.replicate (words 256) 0) = List.replicate 4 0 := rfl
  rw [e4] at hs
  go_loopw [8] (fun iv wr => ∃ i : Nat, iv = .int .i64 (i : Int) ∧ i ≤ t.size ∧ SetRow w.heap.size wr (.slice (some ⟨g, 0, none⟩) 4 cap) ((t.data.toList.take i).foldl (fun ws c => addS ws c.toNat) (List.replicate 4 0)) ∧ Below w.heap.size w wr) (fun iv _ => t.size - (intOf iv).toNat)
  case atStart => exact ⟨0, rfl, Nat.zero_le _, hs, hb⟩
  case round =>
    obtain ⟨i, rfl, hi, hsr, hbr⟩ := hrel
    by_cases hlt : i < t.size
    · have hiI : (i : Int) < (t.size : Int) := by omega
      have hln : ((t.data.toList.take i).foldl (fun ws c => addS ws c.toNat) (List.replicate 4 0)).length = 4 := wordsOf_length (t.data.toList.take i)
      have hc := t[i].toNat_lt
      have hadd := add_any (t[i].toNat) _ hsr (by rw [hln]; omega) (by omega)
      go_wp2_with (go_at_call 129; refine hadd.mono ?_; rintro e w2 ⟨rfl, hs2, _, hg2⟩)
      go_roundw
      case rel =>
        refine ⟨i + 1, by simp, by omega, ?_, hbr.grown hg2 hbr.size (fun k e => by cases e; exact hB)⟩
        have e1 : t.data.toList.take (i + 1) = t.data.toList.take i ++ [t[i]] := by
          rw [List.take_add_one, List.getElem?_eq_getElem (by simpa using hlt)]
          rfl
        rw [e1, List.foldl_append]
        exact hs2
      case measure => simp [intOf]; omega
    · have hiI : ¬ ((i : Int) < (t.size : Int)) := by omega
      go_wp2
      go_ret
      refine ⟨_, rfl, ?_, hbr⟩
      have e1 : t.data.toList.take i = t.data.toList := List.take_of_length_le (by simp; show t.size ≤ i; omega)
      rw [e1] at hsr
      exact hsr

def tri (s : SpanD) : ExprD × Nat × Nat := (s.e, s.p, s.q)
/-- Spans that lie in memory. -/
def SpAt (B : Nat) (W : World) (l : List SpanD) : Prop := ∀ s ∈ l, ExprAt B W s.g s.o s.e
theorem SpAt.keep {B : Nat} {W W' : World} {l : List SpanD} (h : SpAt B W l) (hb : Below B W W') : SpAt B W' l := fun s hs => (h s hs).keep hb
set_option maxRecDepth 100000 in
set_option maxHeartbeats 1000000 in
theorem layChoice_st (B b : Nat) (ov wv yv : Value) (st en : Int) (pv : Value) (bm : Nat) (D : BData) (v : Value) (ks : List ExprD) (p q : Nat) (w : World) (h : BSt B w b ov wv yv st en pv bm D) (hk : KidsAt B w v ks) (hl : D.opn.length + ks.length ≤ 1000000000) (hB : B ≤ w.heap.size) :
    Calls Tryz.prog 128 #[.pointer (some ⟨b, 0, none⟩), v, .int .i64 (p : Int), .int .i64 (q : Int)] w fun e w' => e = .returned (.tuple #[]) ∧ ∃ pv' sp, sp.map tri = ks.map (fun k => (k, p, q)) ∧ SpAt B w' sp ∧ BSt B w' b ov wv yv st en pv' bm { D with opn := D.opn ++ sp } ∧ FrB B pv pv' w w' := by
  rcases hk with ⟨rfl, rfl⟩ | ⟨gk, ck, rfl, hck, hk⟩
  · go_enter Tryz.func128, Tryz.ntmps128
    go_wp2
    go_loopw [11] (fun iv wr => iv = .int .i64 0 ∧ wr = w) (fun _ _ => 0)
    case atStart => exact ⟨rfl, rfl⟩
    case round =>
      obtain ⟨rfl, rfl⟩ := hrel
      go_wp2
      go_end0
      exact ⟨rfl, pv, [], rfl, fun s hs => (by cases hs), by rw [List.append_nil]; exact h, FrB.refl _ _ _⟩
  · go_enter Tryz.func128, Tryz.ntmps128
    go_wp2
    go_loopw [11] (fun iv wr => ∃ (i : Nat) (pv' : Value) (sp : List SpanD), iv = .int .i64 (i : Int) ∧ i ≤ ks.length ∧ sp.map tri = (ks.take i).map (fun k => (k, p, q)) ∧ SpAt B wr sp ∧ BSt B wr b ov wv yv st en pv' bm { D with opn := D.opn ++ sp } ∧ FrB B pv pv' w wr) (fun iv _ => ks.length - (intOf iv).toNat)
    case atStart => exact ⟨0, pv, [], rfl, Nat.zero_le _, rfl, fun s hs => (by cases hs), by rw [List.append_nil]; exact h, FrB.refl _ _ _⟩
    case round =>
      obtain ⟨i, pv', sp, rfl, hi, hsp, hat, hst, hfr⟩ := hrel
      by_cases hlt : i < ks.length
      · have hiI : (i : Int) < (ks.length : Int) := by omega
        have hsl : sp.length = i := by have := congrArg List.length hsp; simp at this; omega
        have hke := (hk i ks[i] (List.getElem?_eq_getElem hlt)).keep hfr.bel
        have hlv := leave_st B b ov wv yv st en pv' bm { D with opn := D.opn ++ sp } ⟨gk, i * 3, ks[i], p, q⟩ _ hst (by simp; omega) (Nat.le_trans hB hfr.bel.size)
        go_wp2_with (go_at_call 111; refine hlv.mono ?_; rintro e w2 ⟨rfl, pv2, hst2, hfr2⟩)
        go_roundw
        case rel =>
          refine ⟨i + 1, pv2, sp ++ [⟨gk, i * 3, ks[i], p, q⟩], by simp, by omega, ?_, ?_, ?_, hfr.trans hfr2⟩
          · rw [List.map_append, hsp, List.take_add_one, List.getElem?_eq_getElem hlt, List.map_append]
            rfl
          · intro s hs
            rcases List.mem_append.1 hs with hs | hs
            · exact (hat s hs).keep hfr2.bel
            · rw [List.mem_singleton] at hs
              subst hs
              exact hke.keep hfr2.bel
          · rw [← List.append_assoc]; exact hst2
        case measure => simp [intOf]; omega
      · have hiI : ¬ ((i : Int) < (ks.length : Int)) := by omega
        go_wp2
        go_end0
        refine ⟨rfl, pv', sp, ?_, hat, hst, hfr⟩
        rw [hsp, List.take_of_length_le (by omega)]
/-- A row's spans: new states from N on between its Kids. -/
def rowT : Nat → Nat → Nat → List ExprD → List (ExprD × Nat × Nat)
  | _, _, _, [] => []
  | at_, _, q, [k] => [(k, at_, q)]
  | at_, N, q, k :: k2 :: ks => (k, at_, N) :: rowT N (N + 1) q (k2 :: ks)
end Go.Proofs.YtjbdoeoimodhkaaGreatDoor
