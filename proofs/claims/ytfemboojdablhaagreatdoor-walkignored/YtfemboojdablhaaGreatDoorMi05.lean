/- Merged: ABld, ALayA, ALayB. -/
import Derived.Test.YtfemboojdablhaaGreatDoorMi04
import Derived.Maps.OwnSet
import Derived.Maps.OwnOps
import Derived.StringKeys
import Derived.Maps.Views
namespace Go.Proofs.YtfemboojdablhaaGreatDoor
open Go.RowKit Go.Maps
theorem Tryz.underlying9' : Tryz.prog.underlying 9 = some .string := by kernel_rfl
theorem lawS : Keyed Tryz.prog 9 := string_keyed Tryz.underlying9'
def lt (l : List UInt8) : Lit := .string l
theorem lt_ne {a b : List UInt8} (h : ¬ a = b) : lt a ≠ lt b := fun e => h (by unfold lt at e; injection e)
theorem keyLitS {l : List UInt8} : WideAt.IsKeyLit (lt l) := by unfold lt WideAt.IsKeyLit; trivial
theorem keyS (s : ByteArray) (hs : s.size ≤ maxLen) : keyOf Tryz.prog 9 (.string s) = some (.string s.data.toList) := WideMaps.keyOf_string_mk Tryz.underlying9' hs
def numElem : Value → Option (DataW Unit × List MemPlace)
  | .int .i64 n => some (.lit (.int .i64 n), [])
  | _ => none
theorem num_inv {v : Value} {a : Int} {ps : List MemPlace} (h : numElem v = some (.lit (.int .i64 a), ps)) : v = .int .i64 a := by
  unfold numElem at h
  split at h
  · simp only [Option.some.injEq, Prod.mk.injEq, DataW.lit.injEq, Lit.int.injEq] at h
    rw [h.1.2]
  · cases h
def KnOk (D : DataW Unit) (K : List (List UInt8)) (x : List UInt8) : Prop := Maps.has D (lt x) = false ∨ (Maps.has D (lt x) = true ∧ ∃ n : Nat, K[n]? = some x ∧ D.atKey (lt x) (.lit (.int .i64 0)) = .lit (.int .i64 (n : Int)))
def KnownAre (W : World) (bm : Nat) (K : List (List UInt8)) : Prop := ∃ D, IsMap D ∧ W.ownsMap Tryz.prog 9 numElem bm K.length D ∧ ∀ x, KnOk D K x
theorem Tryz.zero3 (w : World) : (zeroValue 3).run Tryz.prog w = .ok (.int .i64 0) w := by kernel_rfl
theorem Tryz.underlying248 : Tryz.prog.underlying 248 = some (.map 9 3) := by kernel_rfl
theorem kn_add {W' : World} {bm : Nat} {K : List (List UInt8)} {x : List UInt8} {D : DataW Unit} (hok : ∀ x, KnOk D K x) (hD : IsMap D)
    (h : W'.ownsMap Tryz.prog 9 numElem bm (K.length + 1) (D.put (lt x) (.lit (.int .i64 (K.length : Int))))) : KnownAre W' bm (K ++ [x]) := by
  refine ⟨_, hD.put _ _, by rw [List.length_append]; exact h, fun y => ?_⟩
  by_cases e : y = x
  · subst e
    exact .inr ⟨has_put_same hD keyLitS _, K.length, by simp, atKey_put_same hD keyLitS _ _⟩
  · rcases hok y with hk | ⟨hk, n, hn, hat⟩
    · exact .inl (by rw [has_put_other (lt_ne e)]; exact hk)
    · refine .inr ⟨by rw [has_put_other (lt_ne e)]; exact hk, n, ?_, by rw [atKey_put_other (lt_ne e), hat]⟩
      rw [List.getElem?_append_left (List.getElem?_eq_some_iff.1 hn).1]; exact hn
structure SpanD where
  g : Nat
  o : Nat
  e : ExprD
  p : Nat
  q : Nat
def span3 (s : SpanD) : List Value := [.pointer (some ⟨s.g, s.o, none⟩), .int .i64 (s.p : Int), .int .i64 (s.q : Int)]
def spanL (l : List SpanD) : List Value := l.flatMap span3
def wordsOf (t : List UInt8) : List Nat := t.foldl (fun ws c => addS ws c.toNat) (List.replicate 4 0)
theorem wordsOf_length (t : List UInt8) : (wordsOf t).length = 4 := by
  unfold wordsOf
  suffices h : ∀ (t : List UInt8) (ws : List Nat), (t.foldl (fun ws c => addS ws c.toNat) ws).length = ws.length from h t _
  intro t
  induction t with
  | nil => intro ws; rfl
  | cons c t ih => intro ws; rw [List.foldl_cons, ih, addS_length]
theorem foldl_in (c : UInt8) : ∀ (t : List UInt8) (ws : List Nat), ws.length = 4 → inS (t.foldl (fun ws c => addS ws c.toNat) ws) c.toNat = (inS ws c.toNat || decide (c ∈ t)) := by
  intro t
  induction t with
  | nil => intro ws _; simp
  | cons a t ih =>
    intro ws h
    have ha : a.toNat / 64 < ws.length := by have := a.toNat_lt; omega
    rw [List.foldl_cons, ih _ (by rw [addS_length]; exact h), inS_add ha, Bool.or_assoc]
    congr 1
    rw [Bool.eq_iff_iff]
    simp only [Bool.or_eq_true, decide_eq_true_eq, List.mem_cons]
    refine or_congr ?_ Iff.rfl
    constructor
    · intro h; exact (UInt8.toNat_inj.1 h).symm
    · intro h; rw [h]
theorem wordsOf_in (t : List UInt8) (c : UInt8) : inS (wordsOf t) c.toNat = decide (c ∈ t) := by
  unfold wordsOf
  rw [foldl_in c t _ (by simp), inS_none, Bool.false_or]
structure BData where
  outs : List Int
  ways : List WayD
  svs : List Value
  K : List (List UInt8)
  opn : List SpanD
structure BSt (B : Nat) (W : World) (b : Nat) (ov wv yv : Value) (st en : Int) (pv : Value) (bm : Nat) (D : BData) : Prop where
  box : BBox W b ov wv yv st en pv (.map (some bm))
  bB : B ≤ b
  out : W.ownsRow B 3 1 ov D.outs.length (i64s D.outs)
  ways : W.ownsRow B 290 3 wv D.ways.length (wayL D.ways)
  byt : W.ownsRow B 246 1 yv D.svs.length D.svs
  len : D.svs.length = D.K.length
  sets : ∀ (i : Nat) (v : Value), D.svs[i]? = some v → ∃ t, D.K[i]? = some t ∧ SetRow B W v (wordsOf t)
  opn : W.ownsRow B 284 3 pv D.opn.length (spanL D.opn)
  mB : B ≤ bm
  kn : KnownAre W bm D.K
structure TyG (T : List TypeId) (w w' : World) : Prop where
  size : w.heap.size ≤ w'.heap.size
  same : ∀ (k : Nat) (o : Obj), w.heap[k]? = some o → (∀ c t fr, o = .cells c t fr → t ∉ T) → w'.heap[k]? = some o
theorem TyG.row {T : List TypeId} {W W' : World} {B t size n : Nat} {v : Value} {xs : List Value} (h : TyG T W W') (ho : W.ownsRow B t size v n xs) (ht : t ∉ T) : W'.ownsRow B t size v n xs := by
  refine ⟨ho.1, ?_⟩
  rcases ho.2 with h2 | ⟨g, cap, cur, e, hbb, hg, r⟩
  · exact .inl h2
  · exact .inr ⟨g, cap, cur, e, hbb, h.same g _ hg (fun c t' fr e => by cases e; exact ht), r⟩
theorem TyG.set {T : List TypeId} {W W' : World} {B : Nat} {v : Value} {ws : List Nat} (h : TyG T W W') (ho : SetRow B W v ws) (ht : 205 ∉ T) : SetRow B W' v ws := ⟨h.row ho.own ht, ho.lim⟩
theorem map_same {W W' : World} {R : Value → Option (DataW Unit × List MemPlace)} {b n : Nat} {D : DataW Unit} (h : W.ownsMap Tryz.prog 9 R b n D) (he : W'.heap[b]? = W.heap[b]?) : W'.ownsMap Tryz.prog 9 R b n D := by
  obtain ⟨es, cl, h1, r⟩ := h
  exact ⟨es, cl, he.trans h1, r⟩
theorem map_obj {W : World} {R : Value → Option (DataW Unit × List MemPlace)} {b n : Nat} {D : DataW Unit} (h : W.ownsMap Tryz.prog 9 R b n D) : ∃ es cl, W.heap[b]? = some (.map es cl) := by
  obtain ⟨es, cl, h1, r⟩ := h
  exact ⟨es, cl, h1⟩
theorem KnownAre.same {W W' : World} {bm : Nat} {K : List (List UInt8)} (h : KnownAre W bm K) (he : W'.heap[bm]? = W.heap[bm]?) : KnownAre W' bm K := by
  obtain ⟨D, hD, h1, h2⟩ := h
  exact ⟨D, hD, map_same h1 he, h2⟩
theorem TyG.kn {T : List TypeId} {W W' : World} {bm : Nat} {K : List (List UInt8)} (h : TyG T W W') (hk : KnownAre W bm K) : KnownAre W' bm K := by
  obtain ⟨D, hD, h1, h2⟩ := hk
  obtain ⟨es, cl, e⟩ := map_obj h1
  exact ⟨D, hD, map_same h1 ((h.same bm _ e (fun c t fr e => by cases e)).trans e.symm), h2⟩
structure FrB (B : Nat) (pv pv' : Value) (W W' : World) : Prop where
  bel : Below B W W'
  pvn : pv'.ownBlock = pv.ownBlock ∨ ∀ g, pv'.ownBlock = some g → W.heap.size ≤ g
  box : ∀ (z : Nat) (cs : Array Value) (t : TypeId), W.heap[z]? = some (.cells cs t (0, 0)) → t = 284 → pv.ownBlock ≠ some z → W'.heap[z]? = some (.cells cs t (0, 0))
theorem FrB.trans {B : Nat} {p q r : Value} {X Y Z : World} (h : FrB B p q X Y) (h2 : FrB B q r Y Z) : FrB B p r X Z := by
  refine ⟨h.bel.trans h2.bel, ?_, fun z cs t hz ht hne => h2.box z cs t (h.box z cs t hz ht hne) ht (fun e => ?_)⟩
  · rcases h2.pvn with e | e
    · rcases h.pvn with e' | e'
      · exact .inl (e.trans e')
      · exact .inr (fun g hg => e' g (e ▸ hg))
    · exact .inr (fun g hg => Nat.le_trans h.bel.size (e g hg))
  · rcases h.pvn with e' | e'
    · exact hne (e' ▸ e)
    · have := e' z e
      have := (Array.getElem?_eq_some_iff.1 hz).1
      omega
theorem FrB.refl (B : Nat) (p : Value) (X : World) : FrB B p p X X := ⟨Below.refl _ _, .inl rfl, fun _ _ _ h _ _ => h⟩
theorem own_cells {B t size n g : Nat} {W : World} {v : Value} {xs : List Value} (ho : W.ownsRow B t size v n xs) (hg : v.ownBlock = some g) : B ≤ g ∧ ∃ cur, W.heap[g]? = some (.cells cur t (0, 0)) := by
  rcases ho.2 with ⟨rfl, _⟩ | ⟨g', cap, cur, rfl, hb, h, _⟩
  · cases hg
  · cases hg; exact ⟨hb, cur, h⟩
theorem grown_ty {B : Nat} {w w' : World} {T : List TypeId} {ex : List (Option Nat)} (h : GrowN w w' ex) (hT : ∀ g, some g ∈ ex → B ≤ g ∧ ∃ cur t, t ∈ T ∧ w.heap[g]? = some (.cells cur t (0, 0))) (hB : B ≤ w.heap.size) : TyG T w w' ∧ Below B w w' := by
  refine ⟨⟨h.size, fun k o hk ho => ?_⟩, h.os, h.tape, h.output, h.size, fun k hk => h.block k (by omega) (fun e => ?_)⟩
  · refine (h.block k (Array.getElem?_eq_some_iff.1 hk).1 (fun e => ?_)).trans hk
    obtain ⟨_, cur, t, ht, hc⟩ := hT k e
    rw [hk] at hc
    cases hc
    exact ho _ _ _ rfl ht
  · have := (hT k e).1; omega
theorem Grow2.toN {w w' : World} {p q : Option Nat} (h : Grow2 w w' p q) : GrowN w w' [p, q] := ⟨h.os, h.tape, h.output, h.size, fun k hk hne => h.block k hk (fun e => hne (by simp [e])) (fun e => hne (by simp [e]))⟩
theorem FrB.of_ty {B : Nat} {T : List TypeId} {pv : Value} {W W' : World} (h : TyG T W W') (hb : Below B W W') (h89 : 284 ∉ T) : FrB B pv pv W W' := ⟨hb, .inl rfl, fun z cs t hz ht _ => h.same z _ hz (fun c t' fr e => by cases e; subst ht; exact h89)⟩
theorem grow_st (B b : Nat) (ov wv yv : Value) (st en : Int) (pv : Value) (bm : Nat) (D : BData) (w : World) (h : BSt B w b ov wv yv st en pv bm D) (hl : D.outs.length ≤ 1000000000) (hB : B ≤ w.heap.size) :
    Calls Tryz.prog 198 #[.pointer (some ⟨b, 0, none⟩)] w fun e w' => e = .returned (.int .i64 (D.outs.length : Int)) ∧ ∃ ov', BSt B w' b ov' wv yv st en pv bm { D with outs := D.outs ++ [-1] } ∧ FrB B pv pv w w' := by
  refine (grow_any B b ov wv yv st en pv _ D.outs w h.box h.out hl hB).mono ?_
  rintro e w' ⟨rfl, ov', h1, h2, h3⟩
  have hg := grown_ty (B := B) (T := [281, 3]) h3.toN (fun g hg => by
    simp only [List.mem_cons, List.not_mem_nil, or_false] at hg
    rcases hg with hg | hg
    · cases hg; exact ⟨h.bB, _, 281, by simp, h.box⟩
    · obtain ⟨hb, cur, hc⟩ := own_cells h.out hg.symm
      exact ⟨hb, cur, 3, by simp, hc⟩) hB
  refine ⟨rfl, ov', ⟨h1, h.bB, h2, hg.1.row h.ways (by decide), hg.1.row h.byt (by decide), h.len, fun i v hv => ?_, hg.1.row h.opn (by decide), h.mB, hg.1.kn h.kn⟩, FrB.of_ty hg.1 hg.2 (by decide)⟩
  obtain ⟨t, ht, hs⟩ := h.sets i v hv
  exact ⟨t, ht, hg.1.set hs (by decide)⟩
theorem link_st (B b : Nat) (ov wv yv : Value) (st en : Int) (pv : Value) (bm : Nat) (D : BData) (fr : Nat) (to by_ o : Int) (w : World) (h : BSt B w b ov wv yv st en pv bm D) (hfr : D.outs[fr]? = some o) (hl : D.ways.length ≤ 1000000000) (hB : B ≤ w.heap.size) :
    Calls Tryz.prog 203 #[.pointer (some ⟨b, 0, none⟩), .int .i64 (fr : Int), .int .i64 to, .int .i64 by_] w fun e w' => e = .returned (.tuple #[]) ∧ ∃ wv', BSt B w' b ov wv' yv st en pv bm { D with outs := D.outs.set fr (D.ways.length : Int), ways := D.ways ++ [⟨to, by_, o⟩] } ∧ FrB B pv pv w w' := by
  have hpos : 0 < D.outs.length := by have := (List.getElem?_eq_some_iff.1 hfr).1; omega
  obtain ⟨g, cap, rfl, hgB, _⟩ := h.out.form hpos
  refine (link_any B b g cap wv yv st en pv _ D.outs D.ways fr to by_ o w h.box h.out h.ways hfr hl hB).mono ?_
  rintro e w' ⟨rfl, wv', h1, h2, h3, h4⟩
  have hg := grown_ty (B := B) (T := [281, 3, 290]) h4 (fun g' hg => by
    simp only [List.mem_cons, List.not_mem_nil, or_false] at hg
    rcases hg with hg | hg | hg
    · cases hg; exact ⟨h.bB, _, 281, by simp, h.box⟩
    · cases hg
      obtain ⟨hb, cur, hc⟩ := own_cells h.out rfl
      exact ⟨hb, cur, 3, by simp, hc⟩
    · obtain ⟨hb, cur, hc⟩ := own_cells h.ways hg.symm
      exact ⟨hb, cur, 290, by simp, hc⟩) hB
  refine ⟨rfl, wv', ⟨h1, h.bB, ?_, h3, hg.1.row h.byt (by decide), h.len, fun i v hv => ?_, hg.1.row h.opn (by decide), h.mB, hg.1.kn h.kn⟩, FrB.of_ty hg.1 hg.2 (by decide)⟩
  · rw [List.length_set]; exact h2
  · obtain ⟨t, ht, hs⟩ := h.sets i v hv
    exact ⟨t, ht, hg.1.set hs (by decide)⟩
theorem Tryz.info284 : (Tryz.prog.info? 284).map (fun i => (i.zero, i.size, i.bytes)) = some (some (.agg #[.pointer none, .int .i64 0, .int .i64 0]), 3, 24) := by kernel_rfl
theorem Tryz.underlying279 : Tryz.prog.underlying 279 = some (.slice 284) := by kernel_rfl
theorem BBox.set5 {W : World} {b : Nat} {ov wv yv : Value} {st en : Int} {pv kv : Value} (h : BBox W b ov wv yv st en pv kv) (u : Value) : BBox (W.setCell ⟨b, 5, none⟩ u) b ov wv yv st en u kv := by
  obtain ⟨hlt, hk⟩ := Array.getElem?_eq_some_iff.1 h
  show (W.heap.modify b _)[b]? = _
  rw [Array.getElem?_eq_getElem (by rw [Array.size_modify]; exact hlt), Array.getElem_modify_self, hk]
  rfl
set_option maxRecDepth 100000 in
set_option maxHeartbeats 1000000 in
theorem leave_st (B b : Nat) (ov wv yv : Value) (st en : Int) (pv : Value) (bm : Nat) (D : BData) (s : SpanD) (w : World) (h : BSt B w b ov wv yv st en pv bm D) (hl : D.opn.length ≤ 1000000000) (hB : B ≤ w.heap.size) :
    Calls Tryz.prog 199 #[.pointer (some ⟨b, 0, none⟩), .pointer (some ⟨s.g, s.o, none⟩), .int .i64 (s.p : Int), .int .i64 (s.q : Int)] w fun e w' => e = .returned (.tuple #[]) ∧ ∃ pv', BSt B w' b ov wv yv st en pv' bm { D with opn := D.opn ++ [s] } ∧ FrB B pv pv' w w' := by
  obtain ⟨i0, hi, hz0, hz1, hz2⟩ := info_parts Tryz.info284
  obtain ⟨_, _, _, _, _, c5, _, cf⟩ := h.box.cells
  have f5 := cf 5
  have hblt : b < w.heap.size := (Array.getElem?_eq_some_iff.1 h.box).1
  have hnb := own_not_box h.opn h.box (by decide)
  have hown := h.opn
  have HN : Hid (∀ (j : Nat) (u : Value), (span3 s)[j]? = some u → (w.alloc (.cells #[.pointer (some ⟨s.g, s.o, none⟩), .int .i64 (s.p : Int), .int .i64 (s.q : Int)] 284)).cell? ((⟨w.heap.size, 0, none⟩ : Addr).add j) = some u) := World.news_of_block (cs := #[.pointer (some ⟨s.g, s.o, none⟩), .int .i64 (s.p : Int), .int .i64 (s.q : Int)]) (World.alloc_heap_new w _)
  have H := hide h
  clear h cf
  go_enter Tryz.func199, Tryz.ntmps199
  go_wp2_with (at_builtin; refine wpList_append_lies _ rfl (.tmp 12) (.tmp 17) 279 rfl B 284 i0 _ 3 24 Tryz.underlying279 hi hz0 hz1 hz2 rfl (by decide) pv D.opn.length (spanL D.opn) rfl (hown.alloc _) ⟨w.heap.size, 0, none⟩ 1 1 (span3 s) rfl rfl (unhide HN) (by simp [span3, Value.oneCell']) (by decide) (by unfold maxLen; omega) (by omega) (by simp; omega) _ rfl ?_)
  intro g' cap' w1 hown' hgrow hat hlt
  have hal : Below w.heap.size w (w.alloc (.cells #[.pointer (some ⟨s.g, s.o, none⟩), .int .i64 (s.p : Int), .int .i64 (s.q : Int)] 284)) := (Below.refl _ _).alloc (Nat.le_refl _) _
  have hbx1 : BBox w1 b ov wv yv st en pv (.map (some bm)) := (hgrow.block b (Nat.lt_of_lt_of_le hblt hal.size) (fun e => hnb e.symm)).trans ((hal.block b hblt).trans H.out.box)
  obtain ⟨_, _, _, _, _, d5, _, df⟩ := hbx1.cells
  have e5 := df 5
  have HOWN := hide hown'
  have HGR := hide hgrow
  have HBX1 := hide hbx1
  clear df hown' hgrow hbx1 hown c5 f5
  go_wp2
  first | refine bodyPost_ret (results_none rfl _ _ _) rfl ?_ | refine bodyPost_end (results_none rfl _ _ _) rfl ?_
  have h := H.out
  have h1 := HGR.out
  have h2 := set_grown w1 b 5 (Value.slice (some ⟨g', 0, none⟩) (D.opn.length + 1) cap')
  have hG : GrowN w (w1.setCell ⟨b, 5, none⟩ (Value.slice (some ⟨g', 0, none⟩) (D.opn.length + 1) cap')) [some b, pv.ownBlock] := by
    refine ⟨h2.os.trans (h1.os.trans hal.os), h2.tape.trans (h1.tape.trans hal.tape), h2.output.trans (h1.output.trans hal.output), Nat.le_trans hal.size (Nat.le_trans h1.size h2.size), fun k hk hne => ?_⟩
    simp only [List.mem_cons, not_or, List.not_mem_nil, not_false_eq_true, and_true] at hne
    have hk1 := Nat.lt_of_lt_of_le hk hal.size
    exact (h2.block k (Nat.lt_of_lt_of_le hk1 h1.size) hne.1).trans ((h1.block k hk1 hne.2).trans (hal.block k hk))
  have hg := grown_ty (B := B) (T := [281, 284]) hG (fun g hg => by
    simp only [List.mem_cons, List.not_mem_nil, or_false] at hg
    rcases hg with hg | hg
    · cases hg; exact ⟨h.bB, _, 281, by simp, h.box⟩
    · obtain ⟨hb, cur, hc⟩ := own_cells h.opn hg.symm
      exact ⟨hb, cur, 284, by simp, hc⟩) hB
  refine ⟨rfl, _, ⟨HBX1.out.set5 _, h.bB, hg.1.row h.out (by decide), hg.1.row h.ways (by decide), hg.1.row h.byt (by decide), h.len, fun i v hv => ?_, ?_, h.mB, hg.1.kn h.kn⟩, hg.2, ?_, fun z cs t hz ht hne => ?_⟩
  · obtain ⟨t, ht, hs⟩ := h.sets i v hv
    exact ⟨t, ht, hg.1.set hs (by decide)⟩
  · have e : spanL (D.opn ++ [s]) = spanL D.opn ++ span3 s := by simp [spanL]
    have e2 : (D.opn ++ [s]).length = D.opn.length + 1 := by simp
    show World.ownsRow _ B 284 3 _ (D.opn ++ [s]).length (spanL (D.opn ++ [s]))
    rw [e, e2]
    exact ownsRow_setCell_other HOWN.out (a := ⟨b, 5, none⟩) (own_not_box HOWN.out HBX1.out (by decide)) _
  · rcases hat with e | e
    · exact .inl e.symm
    · exact .inr (fun g e2 => by have e3 : g' = g := Option.some.inj e2; omega)
  · refine (hG.block z (Array.getElem?_eq_some_iff.1 hz).1 (fun e => ?_)).trans hz
    simp only [List.mem_cons, List.not_mem_nil, or_false] at e
    rcases e with e | e
    · cases e
      have := h.box
      unfold BBox at this
      rw [hz] at this
      cases this
      cases ht
    · exact hne e.symm
end Go.Proofs.YtfemboojdablhaaGreatDoor
namespace Go.Proofs.YtfemboojdablhaaGreatDoor
open Go.RowKit Go.Maps
inductive ExprAt (B : Nat) (W : World) : Nat → Nat → ExprD → Prop
  | nil (g o : Nat) (op : Int) (st : ByteArray) (hg : g < B) (h0 : W.cell? ⟨g, o, none⟩ = some (.int .i64 op)) (h1 : W.cell? ⟨g, o + 1, none⟩ = some (.string st)) (h2 : W.cell? ⟨g, o + 2, none⟩ = some (.slice none 0 0)) (hs : st.size ≤ 1000000000) : ExprAt B W g o (.mk op st.data.toList [])
  | row (g o : Nat) (op : Int) (st : ByteArray) (gk ck : Nat) (ks : List ExprD) (hg : g < B) (h0 : W.cell? ⟨g, o, none⟩ = some (.int .i64 op)) (h1 : W.cell? ⟨g, o + 1, none⟩ = some (.string st)) (h2 : W.cell? ⟨g, o + 2, none⟩ = some (.slice (some ⟨gk, 0, none⟩) ks.length ck)) (hs : st.size ≤ 1000000000) (hck : ks.length ≤ ck)
      (hk : ∀ (i : Nat) (k : ExprD), ks[i]? = some k → ExprAt B W gk (i * 3) k) : ExprAt B W g o (.mk op st.data.toList ks)
theorem ExprAt.keep {B : Nat} {W W' : World} (hb : Below B W W') {g o : Nat} {e : ExprD} (h : ExprAt B W g o e) : ExprAt B W' g o e := by
  induction h with
  | nil g o op st hg h0 h1 h2 hs => exact .nil g o op st hg ((hb.cell (p := ⟨g, _, none⟩) hg).trans h0) ((hb.cell (p := ⟨g, _, none⟩) hg).trans h1) ((hb.cell (p := ⟨g, _, none⟩) hg).trans h2) hs
  | row g o op st gk ck ks hg h0 h1 h2 hs hck _ ih => exact .row g o op st gk ck ks hg ((hb.cell (p := ⟨g, _, none⟩) hg).trans h0) ((hb.cell (p := ⟨g, _, none⟩) hg).trans h1) ((hb.cell (p := ⟨g, _, none⟩) hg).trans h2) hs hck ih
def KidsAt (B : Nat) (W : World) (v : Value) (ks : List ExprD) : Prop := (v = .slice none 0 0 ∧ ks = []) ∨ ∃ gk ck, v = .slice (some ⟨gk, 0, none⟩) ks.length ck ∧ ks.length ≤ ck ∧ ∀ (i : Nat) (k : ExprD), ks[i]? = some k → ExprAt B W gk (i * 3) k
theorem KidsAt.below {B : Nat} {W W' : World} (hb : Below B W W') {v : Value} {ks : List ExprD} (h : KidsAt B W v ks) : KidsAt B W' v ks := by
  rcases h with h | ⟨gk, ck, h1, h2, h3⟩
  · exact .inl h
  · exact .inr ⟨gk, ck, h1, h2, fun i k hk => (h3 i k hk).keep hb⟩
theorem ExprAt.inv {B : Nat} {W : World} {g o : Nat} {op : Int} {st : List UInt8} {ks : List ExprD} (h : ExprAt B W g o (.mk op st ks)) : g < B ∧ W.cell? ⟨g, o, none⟩ = some (.int .i64 op) ∧ (∃ s : ByteArray, s.data.toList = st ∧ s.size ≤ 1000000000 ∧ W.cell? ⟨g, o + 1, none⟩ = some (.string s)) ∧ ∃ v, W.cell? ⟨g, o + 2, none⟩ = some v ∧ KidsAt B W v ks := by
  cases h with
  | nil g o op st hg h0 h1 h2 hs => exact ⟨hg, h0, ⟨st, rfl, hs, h1⟩, _, h2, .inl ⟨rfl, rfl⟩⟩
  | row g o op st gk ck ks hg h0 h1 h2 hs hck hk => exact ⟨hg, h0, ⟨st, rfl, hs, h1⟩, _, h2, .inr ⟨gk, ck, rfl, hck, hk⟩⟩
set_option maxRecDepth 100000 in
set_option maxHeartbeats 1000000 in
theorem bytesOf_any (t : ByteArray) (w : World) (ht : t.size ≤ 1000000000) :
    Calls Tryz.prog 261 #[.string t] w fun e w' => ∃ v, e = .returned v ∧ SetRow w.heap.size w' v (wordsOf t.data.toList) ∧ Below w.heap.size w w' := by
  go_enter Tryz.func261, Tryz.ntmps261
  go_wp2_with (go_at_call 206; refine (newSet_any 256 _ (by decide)).mono ?_; rintro e w1 ⟨v, rfl, hs, hb⟩)
  obtain ⟨g, cap, hv, hB, hg⟩ := hs.form (by decide)
  have hv4 : v = .slice (some ⟨g, 0, none⟩) 4 cap := hv
  subst hv4
  clear hv
  have e4 : (List.replicate (words 256) 0) = List.replicate 4 0 := rfl
  rw [e4] at hs
  go_loopw [8] (fun iv wr => ∃ i : Nat, iv = .int .i64 (i : Int) ∧ i ≤ t.size ∧ SetRow w.heap.size wr (.slice (some ⟨g, 0, none⟩) 4 cap) ((t.data.toList.take i).foldl (fun ws c => addS ws c.toNat) (List.replicate 4 0)) ∧ Below w.heap.size w wr) (fun iv _ => t.size - (intOf iv).toNat)
  case atStart => exact ⟨0, rfl, Nat.zero_le _, hs, hb⟩
  case round =>
    obtain ⟨i, rfl, hi, hsr, hbr⟩ := hrel
    by_cases hlt : i < t.size
    · have hiI : (i : Int) < (t.size : Int) := by omega
      have hln : ((t.data.toList.take i).foldl (fun ws c => addS ws c.toNat) (List.replicate 4 0)).length = 4 := wordsOf_length (t.data.toList.take i)
      have hc := t[i].toNat_lt
      have hadd := add_any (t[i].toNat) _ hsr (by rw [hln]; omega) (by omega)
      go_wp2_with (go_at_call 239; refine hadd.mono ?_; rintro e w2 ⟨rfl, hs2, _, hg2⟩)
      go_roundw
      case rel =>
        refine ⟨i + 1, by simp, by omega, ?_, hbr.grown hg2 hbr.size (fun k e => by cases e; exact hB)⟩
        have e1 : t.data.toList.take (i + 1) = t.data.toList.take i ++ [t[i]] := by
          rw [List.take_add_one, List.getElem?_eq_getElem (by simpa using hlt)]
          rfl
        rw [e1, List.foldl_append]
        exact hs2
      case measure => simp [intOf]; omega
    · have hiI : ¬ ((i : Int) < (t.size : Int)) := by omega
      go_wp2
      go_ret
      refine ⟨_, rfl, ?_, hbr⟩
      have e1 : t.data.toList.take i = t.data.toList := List.take_of_length_le (by simp; show t.size ≤ i; omega)
      rw [e1] at hsr
      exact hsr
def tri (s : SpanD) : ExprD × Nat × Nat := (s.e, s.p, s.q)
def SpAt (B : Nat) (W : World) (l : List SpanD) : Prop := ∀ s ∈ l, ExprAt B W s.g s.o s.e
set_option maxRecDepth 100000 in
set_option maxHeartbeats 1000000 in
theorem layChoice_st (B b : Nat) (ov wv yv : Value) (st en : Int) (pv : Value) (bm : Nat) (D : BData) (v : Value) (ks : List ExprD) (p q : Nat) (w : World) (h : BSt B w b ov wv yv st en pv bm D) (hk : KidsAt B w v ks) (hl : D.opn.length + ks.length ≤ 1000000000) (hB : B ≤ w.heap.size) :
    Calls Tryz.prog 234 #[.pointer (some ⟨b, 0, none⟩), v, .int .i64 (p : Int), .int .i64 (q : Int)] w fun e w' => e = .returned (.tuple #[]) ∧ ∃ pv' sp, sp.map tri = ks.map (fun k => (k, p, q)) ∧ SpAt B w' sp ∧ BSt B w' b ov wv yv st en pv' bm { D with opn := D.opn ++ sp } ∧ FrB B pv pv' w w' := by
  rcases hk with ⟨rfl, rfl⟩ | ⟨gk, ck, rfl, hck, hk⟩
  · go_enter Tryz.func234, Tryz.ntmps234
    go_wp2
    go_loopw [11] (fun iv wr => iv = .int .i64 0 ∧ wr = w) (fun _ _ => 0)
    case atStart => exact ⟨rfl, rfl⟩
    case round =>
      obtain ⟨rfl, rfl⟩ := hrel
      go_wp2
      go_end0
      exact ⟨rfl, pv, [], rfl, fun s hs => (by cases hs), by rw [List.append_nil]; exact h, FrB.refl _ _ _⟩
  · go_enter Tryz.func234, Tryz.ntmps234
    go_wp2
    go_loopw [11] (fun iv wr => ∃ (i : Nat) (pv' : Value) (sp : List SpanD), iv = .int .i64 (i : Int) ∧ i ≤ ks.length ∧ sp.map tri = (ks.take i).map (fun k => (k, p, q)) ∧ SpAt B wr sp ∧ BSt B wr b ov wv yv st en pv' bm { D with opn := D.opn ++ sp } ∧ FrB B pv pv' w wr) (fun iv _ => ks.length - (intOf iv).toNat)
    case atStart => exact ⟨0, pv, [], rfl, Nat.zero_le _, rfl, fun s hs => (by cases hs), by rw [List.append_nil]; exact h, FrB.refl _ _ _⟩
    case round =>
      obtain ⟨i, pv', sp, rfl, hi, hsp, hat, hst, hfr⟩ := hrel
      by_cases hlt : i < ks.length
      · have hiI : (i : Int) < (ks.length : Int) := by omega
        have hsl : sp.length = i := by have := congrArg List.length hsp; simp at this; omega
        have hke := (hk i ks[i] (List.getElem?_eq_getElem hlt)).keep hfr.bel
        have hlv := leave_st B b ov wv yv st en pv' bm { D with opn := D.opn ++ sp } ⟨gk, i * 3, ks[i], p, q⟩ _ hst (by simp; omega) (Nat.le_trans hB hfr.bel.size)
        go_wp2_with (go_at_call 199; refine hlv.mono ?_; rintro e w2 ⟨rfl, pv2, hst2, hfr2⟩)
        go_roundw
        case rel =>
          refine ⟨i + 1, pv2, sp ++ [⟨gk, i * 3, ks[i], p, q⟩], by simp, by omega, ?_, ?_, ?_, hfr.trans hfr2⟩
          · rw [List.map_append, hsp, List.take_add_one, List.getElem?_eq_getElem hlt, List.map_append]
            rfl
          · intro s hs
            rcases List.mem_append.1 hs with hs | hs
            · exact (hat s hs).keep hfr2.bel
            · rw [List.mem_singleton] at hs
              subst hs
              exact hke.keep hfr2.bel
          · rw [← List.append_assoc]; exact hst2
        case measure => simp [intOf]; omega
      · have hiI : ¬ ((i : Int) < (ks.length : Int)) := by omega
        go_wp2
        go_end0
        refine ⟨rfl, pv', sp, ?_, hat, hst, hfr⟩
        rw [hsp, List.take_of_length_le (by omega)]
def rowT : Nat → Nat → Nat → List ExprD → List (ExprD × Nat × Nat)
  | _, _, _, [] => []
  | at_, _, q, [k] => [(k, at_, q)]
  | at_, N, q, k :: k2 :: ks => (k, at_, N) :: rowT N (N + 1) q (k2 :: ks)
end Go.Proofs.YtfemboojdablhaaGreatDoor
namespace Go.Proofs.YtfemboojdablhaaGreatDoor
open Go.RowKit Go.Maps
theorem BSt.all {B : Nat} {W W' : World} {b : Nat} {ov wv yv : Value} {st en : Int} {pv : Value} {bm : Nat} {D : BData} (h : BSt B W b ov wv yv st en pv bm D) (hg : TyG [] W W') : BSt B W' b ov wv yv st en pv bm D := by
  refine ⟨hg.same b _ h.box (fun _ _ _ _ h => by cases h), h.bB, hg.row h.out (by simp), hg.row h.ways (by simp), hg.row h.byt (by simp), h.len, fun i v hv => ?_, hg.row h.opn (by simp), h.mB, hg.kn h.kn⟩
  obtain ⟨t, ht, hs⟩ := h.sets i v hv
  exact ⟨t, ht, hg.set hs (by simp)⟩
theorem ty_alloc (w : World) (o : Obj) : TyG [] w (w.alloc o) := ⟨by simp, fun k o' hk _ => (Below.heap_alloc w o k (Array.getElem?_eq_some_iff.1 hk).1).trans hk⟩
theorem ty_drew (w : World) : TyG [] w w.drew := ⟨Nat.le_refl _, fun _ _ h _ => h⟩
theorem BSt.pv_lt {B : Nat} {W : World} {b : Nat} {ov wv yv : Value} {st en : Int} {pv : Value} {bm : Nat} {D : BData} (h : BSt B W b ov wv yv st en pv bm D) (g : Nat) (hg : pv.ownBlock = some g) : g < W.heap.size := by
  obtain ⟨_, cur, hc⟩ := own_cells h.opn hg
  exact (Array.getElem?_eq_some_iff.1 hc).1
def SBox (W : World) (z g o p q : Nat) : Prop := W.heap[z]? = some (.cells #[.pointer (some ⟨g, o, none⟩), .int .i64 (p : Int), .int .i64 (q : Int)] 284 (0, 0))
theorem SBox.cells {W : World} {z g o p q : Nat} (h : SBox W z g o p q) : W.cell? ⟨z, 0, none⟩ = some (.pointer (some ⟨g, o, none⟩)) ∧ W.cell? ⟨z, 1, none⟩ = some (.int .i64 (p : Int)) ∧ W.cell? ⟨z, 2, none⟩ = some (.int .i64 (q : Int)) := by
  unfold SBox at h
  simp [World.cell?, h]
theorem SBox.fr {B : Nat} {pv pv' : Value} {W W' : World} {z g o p q : Nat} (h : SBox W z g o p q) (hf : FrB B pv pv' W W') (hne : pv.ownBlock ≠ some z) : SBox W' z g o p q := hf.box z _ 284 h rfl hne
theorem FrB.ne {B : Nat} {pv pv' : Value} {W W' : World} {z : Nat} (hf : FrB B pv pv' W W') (hz : z < W.heap.size) (hne : pv.ownBlock ≠ some z) : pv'.ownBlock ≠ some z := fun e => by
  rcases hf.pvn with e' | e'
  · exact hne (e' ▸ e)
  · have := e' z e; omega
theorem FrB.ty0 {B : Nat} {pv : Value} {W W' : World} (h : TyG [] W W') (hb : Below B W W') : FrB B pv pv W W' := FrB.of_ty h hb (by simp)
def sval (g o p q : Nat) : Value := .agg #[.pointer (some ⟨g, o, none⟩), .int .i64 (p : Int), .int .i64 (q : Int)]
set_option maxRecDepth 100000 in
set_option maxHeartbeats 2000000 in
theorem layRow0_st (B b : Nat) (ov wv yv : Value) (st en : Int) (pv : Value) (bm : Nat) (D : BData) (g o p q : Nat) (op : Int) (tx : List UInt8) (o0 : Int) (w : World) (h : BSt B w b ov wv yv st en pv bm D) (he : ExprAt B w g o (.mk op tx [])) (hp : D.outs[p]? = some o0) (hl : D.ways.length ≤ 1000000000) (hB : B ≤ w.heap.size) :
    Calls Tryz.prog 233 #[.pointer (some ⟨b, 0, none⟩), sval g o p q] w fun e w' => e = .returned (.tuple #[]) ∧ ∃ wv', BSt B w' b ov wv' yv st en pv bm { D with outs := D.outs.set p (D.ways.length : Int), ways := D.ways ++ [⟨q, -1, o0⟩] } ∧ FrB B pv pv w w' := by
  obtain ⟨hgB, k0, _, v, k2, hks⟩ := he.inv
  obtain ⟨ga, na, ca, rfl, hn0⟩ : ∃ (a : Option Addr) (n c : Nat), v = .slice a n c ∧ n = 0 := by
    rcases hks with ⟨e, _⟩ | ⟨gk, ck, e, _⟩
    · exact ⟨_, _, _, e, rfl⟩
    · exact ⟨_, _, _, e, rfl⟩
  subst hn0
  have hal : TyG [] w (w.alloc (.cells #[.pointer (some ⟨g, o, none⟩), .int .i64 (p : Int), .int .i64 (q : Int)] 284)) := ty_alloc _ _
  have hbl : Below B w (w.alloc (.cells #[.pointer (some ⟨g, o, none⟩), .int .i64 (p : Int), .int .i64 (q : Int)] 284)) := (Below.refl _ _).alloc hB _
  have hsb : SBox (w.alloc (.cells #[.pointer (some ⟨g, o, none⟩), .int .i64 (p : Int), .int .i64 (q : Int)] 284)) w.heap.size g o p q := World.alloc_heap_new w _
  obtain ⟨s0, s1, s2⟩ := hsb.cells
  have k2' := (hbl.cell (p := ⟨g, o + 2, none⟩) hgB).trans k2
  have hlk := link_st B b ov wv yv st en pv bm D p (q : Int) (-1) o0 (w.alloc (.cells #[.pointer (some ⟨g, o, none⟩), .int .i64 (p : Int), .int .i64 (q : Int)] 284)).drew ((h.all hal).all (ty_drew _)) hp hl (Nat.le_trans hB hbl.size)
  have HFR : Hid (FrB B pv pv w (w.alloc (.cells #[.pointer (some ⟨g, o, none⟩), .int .i64 (p : Int), .int .i64 (q : Int)] 284)).drew) := (FrB.ty0 hal hbl).trans (FrB.ty0 (ty_drew _) (Below.refl B _).drew)
  unfold sval
  go_enter Tryz.func233, Tryz.ntmps233
  go_wp2
  go_region_with (go_at_call 203; refine hlk.mono ?_; rintro e w2 ⟨rfl, wv2, hst2, hfr2⟩)
  all_goals go_wp2
  all_goals first | refine bodyPost_ret (results_none rfl _ _ _) rfl ?_ | refine bodyPost_end (results_none rfl _ _ _) rfl ?_
  all_goals exact ⟨rfl, wv2, hst2, HFR.out.trans hfr2⟩
theorem rowT_step {at_ N q : Nat} {ks : List ExprD} {i : Nat} (hi : i + 1 < ks.length) : rowT at_ N q (ks.drop i) = (ks[i], at_, N) :: rowT N (N + 1) q (ks.drop (i + 1)) := by
  rw [List.drop_eq_getElem_cons (show i < ks.length by omega), List.drop_eq_getElem_cons hi]
  rfl
theorem rowT_last {at_ N q : Nat} {ks : List ExprD} {i : Nat} (hi : i + 1 = ks.length) : rowT at_ N q (ks.drop i) = [(ks[i], at_, q)] := by
  rw [List.drop_eq_getElem_cons (show i < ks.length by omega), List.drop_eq_nil_of_le (by omega)]
  rfl
set_option maxRecDepth 100000 in
set_option maxHeartbeats 4000000 in
theorem layRow1_st (B b : Nat) (ov wv yv : Value) (st en : Int) (pv : Value) (bm : Nat) (D : BData) (g o p q : Nat) (op : Int) (tx : List UInt8) (ks : List ExprD) (w : World) (h : BSt B w b ov wv yv st en pv bm D) (he : ExprAt B w g o (.mk op tx ks)) (hpos : 0 < ks.length) (hl : D.opn.length + ks.length ≤ 1000000000) (hl2 : D.outs.length + ks.length ≤ 1000000000) (hB : B ≤ w.heap.size) :
    Calls Tryz.prog 233 #[.pointer (some ⟨b, 0, none⟩), sval g o p q] w fun e w' => e = .returned (.tuple #[]) ∧ ∃ ov' pv' sp, sp.map tri = rowT p D.outs.length q ks ∧ SpAt B w' sp ∧ BSt B w' b ov' wv yv st en pv' bm { D with outs := D.outs ++ List.replicate (ks.length - 1) (-1), opn := D.opn ++ sp } ∧ FrB B pv pv' w w' := by
  obtain ⟨hgB, k0, _, v, k2, hks⟩ := he.inv
  rcases hks with ⟨_, e⟩ | ⟨gk, ck, rfl, hck, hk⟩
  · rw [e] at hpos; simp at hpos
  have hal : TyG [] w (w.alloc (.cells #[.pointer (some ⟨g, o, none⟩), .int .i64 (p : Int), .int .i64 (q : Int)] 284)) := ty_alloc _ _
  have hbl : Below B w (w.alloc (.cells #[.pointer (some ⟨g, o, none⟩), .int .i64 (p : Int), .int .i64 (q : Int)] 284)) := (Below.refl _ _).alloc hB _
  have hsb : SBox (w.alloc (.cells #[.pointer (some ⟨g, o, none⟩), .int .i64 (p : Int), .int .i64 (q : Int)] 284)) w.heap.size g o p q := World.alloc_heap_new w _
  obtain ⟨s0, s1, s2⟩ := hsb.cells
  have k2' := (hbl.cell (p := ⟨g, o + 2, none⟩) hgB).trans k2
  have hst1 := h.all hal
  have hfr1 : FrB B pv pv w (w.alloc (.cells #[.pointer (some ⟨g, o, none⟩), .int .i64 (p : Int), .int .i64 (q : Int)] 284)) := FrB.ty0 hal hbl
  have hne1 : pv.ownBlock ≠ some w.heap.size := fun e => by have := h.pv_lt _ e; omega
  have hnI : ¬ ((ks.length : Int) = 0) := by omega
  have hn0 : ((ks.length : Int) == 0) = false := by rw [beq_eq_false_iff_ne]; omega
  have hsz1 : (w.alloc (.cells #[.pointer (some ⟨g, o, none⟩), .int .i64 (p : Int), .int .i64 (q : Int)] 284)).heap.size = w.heap.size + 1 := by simp
  have hpre : ∃ m, ks.length = m + 1 := ⟨ks.length - 1, by omega⟩
  obtain ⟨m, hm⟩ := hpre
  have hmI : ((ks.length : Int) - 1) = (m : Int) := by omega
  have hn1 : ((m : Int) + 1 == 0) = false := by rw [beq_eq_false_iff_ne]; omega
  obtain ⟨W1, hW1⟩ : ∃ W1, w.alloc (.cells #[.pointer (some ⟨g, o, none⟩), .int .i64 (p : Int), .int .i64 (q : Int)] 284) = W1 := ⟨_, rfl⟩
  unfold sval
  go_enter Tryz.func233, Tryz.ntmps233
  rw [hW1] at hsb s0 s1 s2 k2' hst1 hfr1 hsz1 hbl
  have HST := hide hst1
  have HFR := hide hfr1
  have HSB := hide hsb
  clear hst1 hfr1 hsb hal h he
  go_wp2
  go_loopw [5, 33] (fun av iv wr => ∃ (i a : Nat) (ov' pv' : Value) (sp : List SpanD), iv = .int .i64 (i : Int) ∧ av = .int .i64 (a : Int) ∧ i ≤ m ∧ sp.length = i ∧ sp.map tri ++ rowT a (D.outs.length + i) q (ks.drop i) = rowT p D.outs.length q ks ∧ SpAt B wr sp ∧ BSt B wr b ov' wv yv st en pv' bm { D with outs := D.outs ++ List.replicate i (-1), opn := D.opn ++ sp } ∧ FrB B pv pv' w wr ∧ SBox wr w.heap.size g o p q ∧ pv'.ownBlock ≠ some w.heap.size) (fun _ iv _ => m - (intOf iv).toNat)
  case atStart => exact ⟨0, p, ov, pv, [], rfl, rfl, Nat.zero_le _, rfl, rfl, fun s hs => (by cases hs), by rw [List.append_nil, List.replicate_zero, List.append_nil]; exact HST.out, HFR.out, HSB.out, hne1⟩
  case round =>
    obtain ⟨i, a, ov', pv', sp, rfl, rfl, hi, hsl, hrow, hat, hst, hfr, hsbx, hpn⟩ := hrel
    have hBw : B ≤ wr.heap.size := Nat.le_trans hB hfr.bel.size
    have hke := (hk i (ks[i]'(by omega)) (List.getElem?_eq_getElem (by omega))).keep hfr.bel
    by_cases hlt : i < m
    · have hiI : (i : Int) < (m : Int) := by omega
      have hstep := rowT_step (at_ := a) (N := D.outs.length + i) (q := q) (ks := ks) (i := i) (by omega)
      have hgr := grow_st B b ov' wv yv st en pv' bm { D with outs := D.outs ++ List.replicate i (-1), opn := D.opn ++ sp } wr hst (by simp; omega) hBw
      have HX := hide hsbx
      clear hsbx
      go_wp2_with first
        | (go_at_call 198; refine hgr.mono ?_; clear hgr; rintro e w2 ⟨rfl, ov2, hst2, hfr2⟩; have hlv := leave_st B b ov2 wv yv st en pv' bm _ ⟨gk, i * 3, ks[i]'(by omega), a, D.outs.length + i⟩ w2 hst2 (by simp; omega) (Nat.le_trans hBw hfr2.bel.size); have hlen2 : (({ D with outs := D.outs ++ List.replicate i (-1), opn := D.opn ++ sp } : BData).outs.length : Int) = ((D.outs.length + i : Nat) : Int) := (by simp); rw [hlen2]; clear hlen2)
        | (go_at_call 199; refine hlv.mono ?_; rintro e w3 ⟨rfl, pv3, hst3, hfr3⟩)
      have hz1 : w.heap.size < wr.heap.size := by have := hfr.bel.size; have := (Array.getElem?_eq_some_iff.1 HX.out).1; omega
      go_roundw
      case rel =>
        refine ⟨i + 1, D.outs.length + i, ov2, pv3, sp ++ [⟨gk, i * 3, ks[i]'(by omega), a, D.outs.length + i⟩], by simp, by simp, by omega, by simp [hsl], ?_, ?_, ?_, hfr.trans (hfr2.trans hfr3), (HX.out.fr hfr2 hpn).fr hfr3 (hfr2.ne hz1 hpn), hfr3.ne (Nat.lt_of_lt_of_le hz1 hfr2.bel.size) (hfr2.ne hz1 hpn)⟩
        · rw [List.map_append, List.append_assoc, ← hrow, hstep]
          rfl
        · intro s hs
          rcases List.mem_append.1 hs with hs | hs
          · exact (hat s hs).keep (hfr2.bel.trans hfr3.bel)
          · rw [List.mem_singleton] at hs
            subst hs
            exact hke.keep (hfr2.bel.trans hfr3.bel)
        · have e1 : D.outs ++ List.replicate (i + 1) (-1) = D.outs ++ List.replicate i (-1) ++ [-1] := by rw [List.append_assoc, ← List.replicate_succ']
          rw [e1, ← List.append_assoc]
          exact hst3
      case measure => simp [intOf]; omega
    · have him : i = m := by omega
      subst him
      have hiI : ¬ ((i : Int) < (i : Int)) := by omega
      have hlast := rowT_last (at_ := a) (N := D.outs.length + i) (q := q) (ks := ks) (i := i) (by omega)
      obtain ⟨t0, t1, t2⟩ := hsbx.cells
      have hlv := leave_st B b ov' wv yv st en pv' bm _ ⟨gk, i * 3, ks[i]'(by omega), a, q⟩ wr.drew (hst.all (ty_drew _)) (by simp; omega) hBw
      have hsb2 : ((i + 1 : Nat) : Int) - 1 = (i : Int) := by omega
      have hib : (i : Int) < (i : Int) + 1 := by omega
      have hiB : i ≤ 1000000000 := by omega
      have hwi : IntKind.i64.wrap (i : Int) = (i : Int) := wraps_i64_62 _ (by omega) (by omega)
      go_wp2
      go_region_with (go_at_call 199; refine hlv.mono ?_; rintro e w3 ⟨rfl, pv3, hst3, hfr3⟩)
      all_goals go_wp2
      all_goals first | refine bodyPost_ret (results_none rfl _ _ _) rfl ?_ | refine bodyPost_end (results_none rfl _ _ _) rfl ?_
      all_goals
        have hfd : FrB B pv' pv' wr wr.drew := FrB.ty0 (ty_drew _) (Below.refl B _).drew
        refine ⟨rfl, ov', pv3, sp ++ [⟨gk, i * 3, ks[i]'(by omega), a, q⟩], ?_, ?_, ?_, hfr.trans (hfd.trans hfr3)⟩
        · rw [List.map_append, ← hrow, hlast]
          rfl
        · intro s hs
          rcases List.mem_append.1 hs with hs | hs
          · exact (hat s hs).keep (hfd.bel.trans hfr3.bel)
          · rw [List.mem_singleton] at hs
            subst hs
            exact hke.keep (hfd.bel.trans hfr3.bel)
        · have e1 : ks.length - 1 = i := by omega
          rw [e1, ← List.append_assoc]
          exact hst3
end Go.Proofs.YtfemboojdablhaaGreatDoor
