/- Merged: ALayA, ALayB. -/
import Derived.Test.YtdlljlmgoiobpaaGreatDoorABld
/- The builder: bytesOf, layChoice, layRow. -/
namespace Go.Proofs.YtdlljlmgoiobpaaGreatDoor
open Go.RowKit Go.Maps

/-- An Expr in memory, in blocks below B. -/
inductive ExprAt (B : Nat) (W : World) : Nat → Nat → ExprD → Prop
  | nil (g o : Nat) (op : Int) (st : ByteArray) (hg : g < B) (h0 : W.cell? ⟨g, o, none⟩ = some (.int .i64 op)) (h1 : W.cell? ⟨g, o + 1, none⟩ = some (.string st)) (h2 : W.cell? ⟨g, o + 2, none⟩ = some (.slice none 0 0)) (hs : st.size ≤ 1000000000) : ExprAt B W g o (.mk op st.data.toList [])
  | row (g o : Nat) (op : Int) (st : ByteArray) (gk ck : Nat) (ks : List ExprD) (hg : g < B) (h0 : W.cell? ⟨g, o, none⟩ = some (.int .i64 op)) (h1 : W.cell? ⟨g, o + 1, none⟩ = some (.string st)) (h2 : W.cell? ⟨g, o + 2, none⟩ = some (.slice (some ⟨gk, 0, none⟩) ks.length ck)) (hs : st.size ≤ 1000000000) (hck : ks.length ≤ ck)
      (hk : ∀ (i : Nat) (k : ExprD), ks[i]? = some k → ExprAt B W gk (i * 3) k) : ExprAt B W g o (.mk op st.data.toList ks)
theorem ExprAt.keep {B : Nat} {W W' : World} (hb : Below B W W') {g o : Nat} {e : ExprD} (h : ExprAt B W g o e) : ExprAt B W' g o e := by
  induction h with
  | nil g o op st hg h0 h1 h2 hs => exact .nil g o op st hg ((hb.cell (p := ⟨g, _, none⟩) hg).trans h0) ((hb.cell (p := ⟨g, _, none⟩) hg).trans h1) ((hb.cell (p := ⟨g, _, none⟩) hg).trans h2) hs
  | row g o op st gk ck ks hg h0 h1 h2 hs hck _ ih => exact .row g o op st gk ck ks hg ((hb.cell (p := ⟨g, _, none⟩) hg).trans h0) ((hb.cell (p := ⟨g, _, none⟩) hg).trans h1) ((hb.cell (p := ⟨g, _, none⟩) hg).trans h2) hs hck ih
/-- The Kids of one. -/
def KidsAt (B : Nat) (W : World) (v : Value) (ks : List ExprD) : Prop := (v = .slice none 0 0 ∧ ks = []) ∨ ∃ gk ck, v = .slice (some ⟨gk, 0, none⟩) ks.length ck ∧ ks.length ≤ ck ∧ ∀ (i : Nat) (k : ExprD), ks[i]? = some k → ExprAt B W gk (i * 3) k
theorem KidsAt.below {B : Nat} {W W' : World} (hb : Below B W W') {v : Value} {ks : List ExprD} (h : KidsAt B W v ks) : KidsAt B W' v ks := by
  rcases h with h | ⟨gk, ck, h1, h2, h3⟩
  · exact .inl h
  · exact .inr ⟨gk, ck, h1, h2, fun i k hk => (h3 i k hk).keep hb⟩
theorem ExprAt.inv {B : Nat} {W : World} {g o : Nat} {op : Int} {st : List UInt8} {ks : List ExprD} (h : ExprAt B W g o (.mk op st ks)) : g < B ∧ W.cell? ⟨g, o, none⟩ = some (.int .i64 op) ∧ (∃ s : ByteArray, s.data.toList = st ∧ s.size ≤ 1000000000 ∧ W.cell? ⟨g, o + 1, none⟩ = some (.string s)) ∧ ∃ v, W.cell? ⟨g, o + 2, none⟩ = some v ∧ KidsAt B W v ks := by
  cases h with
  | nil g o op st hg h0 h1 h2 hs => exact ⟨hg, h0, ⟨st, rfl, hs, h1⟩, _, h2, .inl ⟨rfl, rfl⟩⟩
  | row g o op st gk ck ks hg h0 h1 h2 hs hck hk => exact ⟨hg, h0, ⟨st, rfl, hs, h1⟩, _, h2, .inr ⟨gk, ck, rfl, hck, hk⟩⟩
set_option maxRecDepth 100000 in
set_option maxHeartbeats 1000000 in
theorem bytesOf_any (t : ByteArray) (w : World) (ht : t.size ≤ 1000000000) :
    Calls Tryz.prog 43 #[.string t] w fun e w' => ∃ v, e = .returned v ∧ SetRow w.heap.size w' v (wordsOf t.data.toList) ∧ Below w.heap.size w w' := by
  go_enter Tryz.func43, Tryz.ntmps43
  go_wp2_with (go_at_call 16; refine (newSet_any 256 _ (by decide)).mono ?_; rintro e w1 ⟨v, rfl, hs, hb⟩)
  obtain ⟨g, cap, hv, hB, hg⟩ := hs.form (by decide)
  have hv4 : v = .slice (some ⟨g, 0, none⟩) 4 cap := hv
  subst hv4
  clear hv
  have e4 : (List.replicate (words 256) 0) = List.replicate 4 0 := rfl
  rw [e4] at hs
  go_loopw [8] (fun iv wr => ∃ i : Nat, iv = .int .i64 (i : Int) ∧ i ≤ t.size ∧ SetRow w.heap.size wr (.slice (some ⟨g, 0, none⟩) 4 cap) ((t.data.toList.take i).foldl (fun ws c => addS ws c.toNat) (List.replicate 4 0)) ∧ Below w.heap.size w wr) (fun iv _ => t.size - (intOf iv).toNat)
  case atStart => exact ⟨0, rfl, Nat.zero_le _, hs, hb⟩
  case round =>
    obtain ⟨i, rfl, hi, hsr, hbr⟩ := hrel
    by_cases hlt : i < t.size
    · have hiI : (i : Int) < (t.size : Int) := by omega
      have hln : ((t.data.toList.take i).foldl (fun ws c => addS ws c.toNat) (List.replicate 4 0)).length = 4 := wordsOf_length (t.data.toList.take i)
      have hc := t[i].toNat_lt
      have hadd := add_any (t[i].toNat) _ hsr (by rw [hln]; omega) (by omega)
      go_wp2_with (go_at_call 37; refine hadd.mono ?_; rintro e w2 ⟨rfl, hs2, _, hg2⟩)
      go_roundw
      case rel =>
        refine ⟨i + 1, by simp, by omega, ?_, hbr.grown hg2 hbr.size (fun k e => by cases e; exact hB)⟩
        have e1 : t.data.toList.take (i + 1) = t.data.toList.take i ++ [t[i]] := by
          rw [List.take_add_one, List.getElem?_eq_getElem (by simpa using hlt)]
          rfl
        rw [e1, List.foldl_append]
        exact hs2
      case measure => simp [intOf]; omega
    · have hiI : ¬ ((i : Int) < (t.size : Int)) := by omega
      go_wp2
      go_ret
      refine ⟨_, rfl, ?_, hbr⟩
      have e1 : t.data.toList.take i = t.data.toList := List.take_of_length_le (by simp; show t.size ≤ i; omega)
      rw [e1] at hsr
      exact hsr

def tri (s : SpanD) : ExprD × Nat × Nat := (s.e, s.p, s.q)
/-- Spans that lie in memory. -/
def SpAt (B : Nat) (W : World) (l : List SpanD) : Prop := ∀ s ∈ l, ExprAt B W s.g s.o s.e
theorem SpAt.keep {B : Nat} {W W' : World} {l : List SpanD} (h : SpAt B W l) (hb : Below B W W') : SpAt B W' l := fun s hs => (h s hs).keep hb
set_option maxRecDepth 100000 in
set_option maxHeartbeats 1000000 in
theorem layChoice_st (B b : Nat) (ov wv yv : Value) (st en : Int) (pv : Value) (bm : Nat) (D : BData) (v : Value) (ks : List ExprD) (p q : Nat) (w : World) (h : BSt B w b ov wv yv st en pv bm D) (hk : KidsAt B w v ks) (hl : D.opn.length + ks.length ≤ 1000000000) (hB : B ≤ w.heap.size) :
    Calls Tryz.prog 36 #[.pointer (some ⟨b, 0, none⟩), v, .int .i64 (p : Int), .int .i64 (q : Int)] w fun e w' => e = .returned (.tuple #[]) ∧ ∃ pv' sp, sp.map tri = ks.map (fun k => (k, p, q)) ∧ SpAt B w' sp ∧ BSt B w' b ov wv yv st en pv' bm { D with opn := D.opn ++ sp } ∧ FrB B pv pv' w w' := by
  rcases hk with ⟨rfl, rfl⟩ | ⟨gk, ck, rfl, hck, hk⟩
  · go_enter Tryz.func36, Tryz.ntmps36
    go_wp2
    go_loopw [11] (fun iv wr => iv = .int .i64 0 ∧ wr = w) (fun _ _ => 0)
    case atStart => exact ⟨rfl, rfl⟩
    case round =>
      obtain ⟨rfl, rfl⟩ := hrel
      go_wp2
      go_end0
      exact ⟨rfl, pv, [], rfl, fun s hs => (by cases hs), by rw [List.append_nil]; exact h, FrB.refl _ _ _⟩
  · go_enter Tryz.func36, Tryz.ntmps36
    go_wp2
    go_loopw [11] (fun iv wr => ∃ (i : Nat) (pv' : Value) (sp : List SpanD), iv = .int .i64 (i : Int) ∧ i ≤ ks.length ∧ sp.map tri = (ks.take i).map (fun k => (k, p, q)) ∧ SpAt B wr sp ∧ BSt B wr b ov wv yv st en pv' bm { D with opn := D.opn ++ sp } ∧ FrB B pv pv' w wr) (fun iv _ => ks.length - (intOf iv).toNat)
    case atStart => exact ⟨0, pv, [], rfl, Nat.zero_le _, rfl, fun s hs => (by cases hs), by rw [List.append_nil]; exact h, FrB.refl _ _ _⟩
    case round =>
      obtain ⟨i, pv', sp, rfl, hi, hsp, hat, hst, hfr⟩ := hrel
      by_cases hlt : i < ks.length
      · have hiI : (i : Int) < (ks.length : Int) := by omega
        have hsl : sp.length = i := by have := congrArg List.length hsp; simp at this; omega
        have hke := (hk i ks[i] (List.getElem?_eq_getElem hlt)).keep hfr.bel
        have hlv := leave_st B b ov wv yv st en pv' bm { D with opn := D.opn ++ sp } ⟨gk, i * 3, ks[i], p, q⟩ _ hst (by simp; omega) (Nat.le_trans hB hfr.bel.size)
        go_wp2_with (go_at_call 24; refine hlv.mono ?_; rintro e w2 ⟨rfl, pv2, hst2, hfr2⟩)
        go_roundw
        case rel =>
          refine ⟨i + 1, pv2, sp ++ [⟨gk, i * 3, ks[i], p, q⟩], by simp, by omega, ?_, ?_, ?_, hfr.trans hfr2⟩
          · rw [List.map_append, hsp, List.take_add_one, List.getElem?_eq_getElem hlt, List.map_append]
            rfl
          · intro s hs
            rcases List.mem_append.1 hs with hs | hs
            · exact (hat s hs).keep hfr2.bel
            · rw [List.mem_singleton] at hs
              subst hs
              exact hke.keep hfr2.bel
          · rw [← List.append_assoc]; exact hst2
        case measure => simp [intOf]; omega
      · have hiI : ¬ ((i : Int) < (ks.length : Int)) := by omega
        go_wp2
        go_end0
        refine ⟨rfl, pv', sp, ?_, hat, hst, hfr⟩
        rw [hsp, List.take_of_length_le (by omega)]
/-- A row's spans: new states from N on between its Kids. -/
def rowT : Nat → Nat → Nat → List ExprD → List (ExprD × Nat × Nat)
  | _, _, _, [] => []
  | at_, _, q, [k] => [(k, at_, q)]
  | at_, N, q, k :: k2 :: ks => (k, at_, N) :: rowT N (N + 1) q (k2 :: ks)
end Go.Proofs.YtdlljlmgoiobpaaGreatDoor
/- The builder: layRow. -/
namespace Go.Proofs.YtdlljlmgoiobpaaGreatDoor
open Go.RowKit Go.Maps

theorem BSt.all {B : Nat} {W W' : World} {b : Nat} {ov wv yv : Value} {st en : Int} {pv : Value} {bm : Nat} {D : BData} (h : BSt B W b ov wv yv st en pv bm D) (hg : TyG [] W W') : BSt B W' b ov wv yv st en pv bm D := by
  refine ⟨hg.same b _ h.box (fun _ _ _ _ h => by cases h), h.bB, hg.row h.out (by simp), hg.row h.ways (by simp), hg.row h.byt (by simp), h.len, fun i v hv => ?_, hg.row h.opn (by simp), h.mB, hg.kn h.kn⟩
  obtain ⟨t, ht, hs⟩ := h.sets i v hv
  exact ⟨t, ht, hg.set hs (by simp)⟩
theorem ty_alloc (w : World) (o : Obj) : TyG [] w (w.alloc o) := ⟨by simp, fun k o' hk _ => (Below.heap_alloc w o k (Array.getElem?_eq_some_iff.1 hk).1).trans hk⟩
theorem ty_drew (w : World) : TyG [] w w.drew := ⟨Nat.le_refl _, fun _ _ h _ => h⟩
theorem BSt.pv_lt {B : Nat} {W : World} {b : Nat} {ov wv yv : Value} {st en : Int} {pv : Value} {bm : Nat} {D : BData} (h : BSt B W b ov wv yv st en pv bm D) (g : Nat) (hg : pv.ownBlock = some g) : g < W.heap.size := by
  obtain ⟨_, cur, hc⟩ := own_cells h.opn hg
  exact (Array.getElem?_eq_some_iff.1 hc).1
/-- The span's box. -/
def SBox (W : World) (z g o p q : Nat) : Prop := W.heap[z]? = some (.cells #[.pointer (some ⟨g, o, none⟩), .int .i64 (p : Int), .int .i64 (q : Int)] 79 (0, 0))
theorem SBox.cells {W : World} {z g o p q : Nat} (h : SBox W z g o p q) : W.cell? ⟨z, 0, none⟩ = some (.pointer (some ⟨g, o, none⟩)) ∧ W.cell? ⟨z, 1, none⟩ = some (.int .i64 (p : Int)) ∧ W.cell? ⟨z, 2, none⟩ = some (.int .i64 (q : Int)) := by
  unfold SBox at h
  simp [World.cell?, h]
theorem SBox.fr {B : Nat} {pv pv' : Value} {W W' : World} {z g o p q : Nat} (h : SBox W z g o p q) (hf : FrB B pv pv' W W') (hne : pv.ownBlock ≠ some z) : SBox W' z g o p q := hf.box z _ 79 h rfl hne
theorem FrB.ne {B : Nat} {pv pv' : Value} {W W' : World} {z : Nat} (hf : FrB B pv pv' W W') (hz : z < W.heap.size) (hne : pv.ownBlock ≠ some z) : pv'.ownBlock ≠ some z := fun e => by
  rcases hf.pvn with e' | e'
  · exact hne (e' ▸ e)
  · have := e' z e; omega
theorem FrB.ty0 {B : Nat} {pv : Value} {W W' : World} (h : TyG [] W W') (hb : Below B W W') : FrB B pv pv W W' := FrB.of_ty h hb (by simp)
def sval (g o p q : Nat) : Value := .agg #[.pointer (some ⟨g, o, none⟩), .int .i64 (p : Int), .int .i64 (q : Int)]
set_option maxRecDepth 100000 in
set_option maxHeartbeats 2000000 in
theorem layRow0_st (B b : Nat) (ov wv yv : Value) (st en : Int) (pv : Value) (bm : Nat) (D : BData) (g o p q : Nat) (op : Int) (tx : List UInt8) (o0 : Int) (w : World) (h : BSt B w b ov wv yv st en pv bm D) (he : ExprAt B w g o (.mk op tx [])) (hp : D.outs[p]? = some o0) (hl : D.ways.length ≤ 1000000000) (hB : B ≤ w.heap.size) :
    Calls Tryz.prog 35 #[.pointer (some ⟨b, 0, none⟩), sval g o p q] w fun e w' => e = .returned (.tuple #[]) ∧ ∃ wv', BSt B w' b ov wv' yv st en pv bm { D with outs := D.outs.set p (D.ways.length : Int), ways := D.ways ++ [⟨q, -1, o0⟩] } ∧ FrB B pv pv w w' := by
  obtain ⟨hgB, k0, _, v, k2, hks⟩ := he.inv
  obtain ⟨ga, na, ca, rfl, hn0⟩ : ∃ (a : Option Addr) (n c : Nat), v = .slice a n c ∧ n = 0 := by
    rcases hks with ⟨e, _⟩ | ⟨gk, ck, e, _⟩
    · exact ⟨_, _, _, e, rfl⟩
    · exact ⟨_, _, _, e, rfl⟩
  subst hn0
  have hal : TyG [] w (w.alloc (.cells #[.pointer (some ⟨g, o, none⟩), .int .i64 (p : Int), .int .i64 (q : Int)] 79)) := ty_alloc _ _
  have hbl : Below B w (w.alloc (.cells #[.pointer (some ⟨g, o, none⟩), .int .i64 (p : Int), .int .i64 (q : Int)] 79)) := (Below.refl _ _).alloc hB _
  have hsb : SBox (w.alloc (.cells #[.pointer (some ⟨g, o, none⟩), .int .i64 (p : Int), .int .i64 (q : Int)] 79)) w.heap.size g o p q := World.alloc_heap_new w _
  obtain ⟨s0, s1, s2⟩ := hsb.cells
  have k2' := (hbl.cell (p := ⟨g, o + 2, none⟩) hgB).trans k2
  have hlk := link_st B b ov wv yv st en pv bm D p (q : Int) (-1) o0 (w.alloc (.cells #[.pointer (some ⟨g, o, none⟩), .int .i64 (p : Int), .int .i64 (q : Int)] 79)).drew ((h.all hal).all (ty_drew _)) hp hl (Nat.le_trans hB hbl.size)
  have HFR : Hid (FrB B pv pv w (w.alloc (.cells #[.pointer (some ⟨g, o, none⟩), .int .i64 (p : Int), .int .i64 (q : Int)] 79)).drew) := (FrB.ty0 hal hbl).trans (FrB.ty0 (ty_drew _) (Below.refl B _).drew)
  unfold sval
  go_enter Tryz.func35, Tryz.ntmps35
  go_wp2
  go_region_with (go_at_call 33; refine hlk.mono ?_; rintro e w2 ⟨rfl, wv2, hst2, hfr2⟩)
  all_goals go_wp2
  all_goals first | refine bodyPost_ret (results_none rfl _ _ _) rfl ?_ | refine bodyPost_end (results_none rfl _ _ _) rfl ?_
  all_goals exact ⟨rfl, wv2, hst2, HFR.out.trans hfr2⟩

theorem rowT_step {at_ N q : Nat} {ks : List ExprD} {i : Nat} (hi : i + 1 < ks.length) : rowT at_ N q (ks.drop i) = (ks[i], at_, N) :: rowT N (N + 1) q (ks.drop (i + 1)) := by
  rw [List.drop_eq_getElem_cons (show i < ks.length by omega), List.drop_eq_getElem_cons hi]
  rfl
theorem rowT_last {at_ N q : Nat} {ks : List ExprD} {i : Nat} (hi : i + 1 = ks.length) : rowT at_ N q (ks.drop i) = [(ks[i], at_, q)] := by
  rw [List.drop_eq_getElem_cons (show i < ks.length by omega), List.drop_eq_nil_of_le (by omega)]
  rfl
set_option maxRecDepth 100000 in
set_option maxHeartbeats 4000000 in
theorem layRow1_st (B b : Nat) (ov wv yv : Value) (st en : Int) (pv : Value) (bm : Nat) (D : BData) (g o p q : Nat) (op : Int) (tx : List UInt8) (ks : List ExprD) (w : World) (h : BSt B w b ov wv yv st en pv bm D) (he : ExprAt B w g o (.mk op tx ks)) (hpos : 0 < ks.length) (hl : D.opn.length + ks.length ≤ 1000000000) (hl2 : D.outs.length + ks.length ≤ 1000000000) (hB : B ≤ w.heap.size) :
    Calls Tryz.prog 35 #[.pointer (some ⟨b, 0, none⟩), sval g o p q] w fun e w' => e = .returned (.tuple #[]) ∧ ∃ ov' pv' sp, sp.map tri = rowT p D.outs.length q ks ∧ SpAt B w' sp ∧ BSt B w' b ov' wv yv st en pv' bm { D with outs := D.outs ++ List.replicate (ks.length - 1) (-1), opn := D.opn ++ sp } ∧ FrB B pv pv' w w' := by
  obtain ⟨hgB, k0, _, v, k2, hks⟩ := he.inv
  rcases hks with ⟨_, e⟩ | ⟨gk, ck, rfl, hck, hk⟩
  · rw [e] at hpos; simp at hpos
  have hal : TyG [] w (w.alloc (.cells #[.pointer (some ⟨g, o, none⟩), .int .i64 (p : Int), .int .i64 (q : Int)] 79)) := ty_alloc _ _
  have hbl : Below B w (w.alloc (.cells #[.pointer (some ⟨g, o, none⟩), .int .i64 (p : Int), .int .i64 (q : Int)] 79)) := (Below.refl _ _).alloc hB _
  have hsb : SBox (w.alloc (.cells #[.pointer (some ⟨g, o, none⟩), .int .i64 (p : Int), .int .i64 (q : Int)] 79)) w.heap.size g o p q := World.alloc_heap_new w _
  obtain ⟨s0, s1, s2⟩ := hsb.cells
  have k2' := (hbl.cell (p := ⟨g, o + 2, none⟩) hgB).trans k2
  have hst1 := h.all hal
  have hfr1 : FrB B pv pv w (w.alloc (.cells #[.pointer (some ⟨g, o, none⟩), .int .i64 (p : Int), .int .i64 (q : Int)] 79)) := FrB.ty0 hal hbl
  have hne1 : pv.ownBlock ≠ some w.heap.size := fun e => by have := h.pv_lt _ e; omega
  have hnI : ¬ ((ks.length : Int) = 0) := by omega
  have hn0 : ((ks.length : Int) == 0) = false := by rw [beq_eq_false_iff_ne]; omega
  have hsz1 : (w.alloc (.cells #[.pointer (some ⟨g, o, none⟩), .int .i64 (p : Int), .int .i64 (q : Int)] 79)).heap.size = w.heap.size + 1 := by simp
  have hpre : ∃ m, ks.length = m + 1 := ⟨ks.length - 1, by omega⟩
  obtain ⟨m, hm⟩ := hpre
  have hmI : ((ks.length : Int) - 1) = (m : Int) := by omega
  have hn1 : ((m : Int) + 1 == 0) = false := by rw [beq_eq_false_iff_ne]; omega
  obtain ⟨W1, hW1⟩ : ∃ W1, w.alloc (.cells #[.pointer (some ⟨g, o, none⟩), .int .i64 (p : Int), .int .i64 (q : Int)] 79) = W1 := ⟨_, rfl⟩
  unfold sval
  go_enter Tryz.func35, Tryz.ntmps35
  rw [hW1] at hsb s0 s1 s2 k2' hst1 hfr1 hsz1 hbl
  have HST := hide hst1
  have HFR := hide hfr1
  have HSB := hide hsb
  clear hst1 hfr1 hsb hal h he
  go_wp2
  go_loopw [5, 33] (fun av iv wr => ∃ (i a : Nat) (ov' pv' : Value) (sp : List SpanD), iv = .int .i64 (i : Int) ∧ av = .int .i64 (a : Int) ∧ i ≤ m ∧ sp.length = i ∧ sp.map tri ++ rowT a (D.outs.length + i) q (ks.drop i) = rowT p D.outs.length q ks ∧ SpAt B wr sp ∧ BSt B wr b ov' wv yv st en pv' bm { D with outs := D.outs ++ List.replicate i (-1), opn := D.opn ++ sp } ∧ FrB B pv pv' w wr ∧ SBox wr w.heap.size g o p q ∧ pv'.ownBlock ≠ some w.heap.size) (fun _ iv _ => m - (intOf iv).toNat)
  case atStart => exact ⟨0, p, ov, pv, [], rfl, rfl, Nat.zero_le _, rfl, rfl, fun s hs => (by cases hs), by rw [List.append_nil, List.replicate_zero, List.append_nil]; exact HST.out, HFR.out, HSB.out, hne1⟩
  case round =>
    obtain ⟨i, a, ov', pv', sp, rfl, rfl, hi, hsl, hrow, hat, hst, hfr, hsbx, hpn⟩ := hrel
    have hBw : B ≤ wr.heap.size := Nat.le_trans hB hfr.bel.size
    have hke := (hk i (ks[i]'(by omega)) (List.getElem?_eq_getElem (by omega))).keep hfr.bel
    by_cases hlt : i < m
    · have hiI : (i : Int) < (m : Int) := by omega
      have hstep := rowT_step (at_ := a) (N := D.outs.length + i) (q := q) (ks := ks) (i := i) (by omega)
      have hgr := grow_st B b ov' wv yv st en pv' bm { D with outs := D.outs ++ List.replicate i (-1), opn := D.opn ++ sp } wr hst (by simp; omega) hBw
      have HX := hide hsbx
      clear hsbx
      go_wp2_with first
        | (go_at_call 23; refine hgr.mono ?_; clear hgr; rintro e w2 ⟨rfl, ov2, hst2, hfr2⟩; have hlv := leave_st B b ov2 wv yv st en pv' bm _ ⟨gk, i * 3, ks[i]'(by omega), a, D.outs.length + i⟩ w2 hst2 (by simp; omega) (Nat.le_trans hBw hfr2.bel.size); have hlen2 : (({ D with outs := D.outs ++ List.replicate i (-1), opn := D.opn ++ sp } : BData).outs.length : Int) = ((D.outs.length + i : Nat) : Int) := (by simp); rw [hlen2]; clear hlen2)
        | (go_at_call 24; refine hlv.mono ?_; rintro e w3 ⟨rfl, pv3, hst3, hfr3⟩)
      have hz1 : w.heap.size < wr.heap.size := by have := hfr.bel.size; have := (Array.getElem?_eq_some_iff.1 HX.out).1; omega
      go_roundw
      case rel =>
        refine ⟨i + 1, D.outs.length + i, ov2, pv3, sp ++ [⟨gk, i * 3, ks[i]'(by omega), a, D.outs.length + i⟩], by simp, by simp, by omega, by simp [hsl], ?_, ?_, ?_, hfr.trans (hfr2.trans hfr3), (HX.out.fr hfr2 hpn).fr hfr3 (hfr2.ne hz1 hpn), hfr3.ne (Nat.lt_of_lt_of_le hz1 hfr2.bel.size) (hfr2.ne hz1 hpn)⟩
        · rw [List.map_append, List.append_assoc, ← hrow, hstep]
          rfl
        · intro s hs
          rcases List.mem_append.1 hs with hs | hs
          · exact (hat s hs).keep (hfr2.bel.trans hfr3.bel)
          · rw [List.mem_singleton] at hs
            subst hs
            exact hke.keep (hfr2.bel.trans hfr3.bel)
        · have e1 : D.outs ++ List.replicate (i + 1) (-1) = D.outs ++ List.replicate i (-1) ++ [-1] := by rw [List.append_assoc, ← List.replicate_succ']
          rw [e1, ← List.append_assoc]
          exact hst3
      case measure => simp [intOf]; omega
    · have him : i = m := by omega
      subst him
      have hiI : ¬ ((i : Int) < (i : Int)) := by omega
      have hlast := rowT_last (at_ := a) (N := D.outs.length + i) (q := q) (ks := ks) (i := i) (by omega)
      obtain ⟨t0, t1, t2⟩ := hsbx.cells
      have hlv := leave_st B b ov' wv yv st en pv' bm _ ⟨gk, i * 3, ks[i]'(by omega), a, q⟩ wr.drew (hst.all (ty_drew _)) (by simp; omega) hBw
      have hsb2 : ((i + 1 : Nat) : Int) - 1 = (i : Int) := by omega
      have hib : (i : Int) < (i : Int) + 1 := by omega
      have hiB : i ≤ 1000000000 := by omega
      have hwi : IntKind.i64.wrap (i : Int) = (i : Int) := wraps_i64_62 _ (by omega) (by omega)
      go_wp2
      go_region_with (go_at_call 24; refine hlv.mono ?_; rintro e w3 ⟨rfl, pv3, hst3, hfr3⟩)
      all_goals go_wp2
      all_goals first | refine bodyPost_ret (results_none rfl _ _ _) rfl ?_ | refine bodyPost_end (results_none rfl _ _ _) rfl ?_
      all_goals
        have hfd : FrB B pv' pv' wr wr.drew := FrB.ty0 (ty_drew _) (Below.refl B _).drew
        refine ⟨rfl, ov', pv3, sp ++ [⟨gk, i * 3, ks[i]'(by omega), a, q⟩], ?_, ?_, ?_, hfr.trans (hfd.trans hfr3)⟩
        · rw [List.map_append, ← hrow, hlast]
          rfl
        · intro s hs
          rcases List.mem_append.1 hs with hs | hs
          · exact (hat s hs).keep (hfd.bel.trans hfr3.bel)
          · rw [List.mem_singleton] at hs
            subst hs
            exact hke.keep (hfd.bel.trans hfr3.bel)
        · have e1 : ks.length - 1 = i := by omega
          rw [e1, ← List.append_assoc]
          exact hst3
end Go.Proofs.YtdlljlmgoiobpaaGreatDoor
