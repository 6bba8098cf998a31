/- The builder: what it holds; which sets it knows; leave. -/
import Derived.Test.YtjbdoeoimodhkaaGreatDoorAStep
import Derived.Maps.OwnSet
import Derived.Maps.OwnOps
import Derived.StringKeys
import Derived.Maps.Views
namespace Go.Proofs.YtjbdoeoimodhkaaGreatDoor
open Go.RowKit Go.Maps

theorem Tryz.underlying9' : Tryz.prog.underlying 9 = some .string := by kernel_rfl
theorem lawS : Keyed Tryz.prog 9 := string_keyed Tryz.underlying9'
def lt (l : List UInt8) : Lit := .string l
theorem lt_ne {a b : List UInt8} (h : ¬ a = b) : lt a ≠ lt b := fun e => h (by unfold lt at e; injection e)
theorem keyLitS {l : List UInt8} : WideAt.IsKeyLit (lt l) := by unfold lt WideAt.IsKeyLit; trivial
theorem keyS (s : ByteArray) (hs : s.size ≤ maxLen) : keyOf Tryz.prog 9 (.string s) = some (.string s.data.toList) := WideMaps.keyOf_string_mk Tryz.underlying9' hs
def numElem : Value → Option (DataW Unit × List MemPlace)
  | .int .i64 n => some (.lit (.int .i64 n), [])
  | _ => none
theorem num_inv {v : Value} {a : Int} {ps : List MemPlace} (h : numElem v = some (.lit (.int .i64 a), ps)) : v = .int .i64 a := by
  unfold numElem at h
  split at h
  · simp only [Option.some.injEq, Prod.mk.injEq, DataW.lit.injEq, Lit.int.injEq] at h
    rw [h.1.2]
  · cases h
def KnOk (D : DataW Unit) (K : List (List UInt8)) (x : List UInt8) : Prop := Maps.has D (lt x) = false ∨ (Maps.has D (lt x) = true ∧ ∃ n : Nat, K[n]? = some x ∧ D.atKey (lt x) (.lit (.int .i64 0)) = .lit (.int .i64 (n : Int)))
/-- Block bm is the map of the texts K. -/
def KnownAre (W : World) (bm : Nat) (K : List (List UInt8)) : Prop := ∃ D, IsMap D ∧ W.ownsMap Tryz.prog 9 numElem bm K.length D ∧ ∀ x, KnOk D K x
theorem Tryz.zero3 (w : World) : (zeroValue 3).run Tryz.prog w = .ok (.int .i64 0) w := by kernel_rfl
theorem Tryz.underlying188 : Tryz.prog.underlying 188 = some (.map 9 3) := by kernel_rfl
/-- 'n, ok := b.known[x]' -/
theorem kn_look {W : World} {bm : Nat} {K : List (List UInt8)} (h : KnownAre W bm K) (x : ByteArray) (hs : x.size ≤ maxLen) :
    (∃ n : Nat, K[n]? = some x.data.toList ∧ (Instr.lookup 188 (.map (some bm)) (.string x) true).run Tryz.prog W = .ok (.tuple #[.int .i64 (n : Int), .bool true]) W) ∨ (Instr.lookup 188 (.map (some bm)) (.string x) true).run Tryz.prog W = .ok (.tuple #[.int .i64 0, .bool false]) W ∧ ∃ D, IsMap D ∧ W.ownsMap Tryz.prog 9 numElem bm K.length D ∧ (∀ x, KnOk D K x) := by
  obtain ⟨D, hD, hown, hok⟩ := h
  obtain ⟨v, ps, hrun, hv⟩ := hown.look_ok lawS Tryz.underlying188 (Tryz.zero3 W) (zd := .lit (.int .i64 0)) (zp := []) rfl (keyS x hs)
  rcases hok x.data.toList with hk | ⟨hk, n, hn, hat⟩
  · have hk1 : Maps.has D (.string x.data.toList) = false := hk
    have hz : D.atKey (.string x.data.toList) (.lit (.int .i64 0)) = .lit (.int .i64 0) := atKey_of_not_has hk1 _
    rw [hz] at hv
    rw [num_inv hv, hk1] at hrun
    exact .inr ⟨hrun, D, hD, hown, hok⟩
  · have hk1 : Maps.has D (.string x.data.toList) = true := hk
    have hat1 : D.atKey (.string x.data.toList) (.lit (.int .i64 0)) = .lit (.int .i64 (n : Int)) := hat
    rw [hat1] at hv
    rw [num_inv hv, hk1] at hrun
    exact .inl ⟨n, hn, hrun⟩
theorem kn_add {W' : World} {bm : Nat} {K : List (List UInt8)} {x : List UInt8} {D : DataW Unit} (hok : ∀ x, KnOk D K x) (hD : IsMap D)
    (h : W'.ownsMap Tryz.prog 9 numElem bm (K.length + 1) (D.put (lt x) (.lit (.int .i64 (K.length : Int))))) : KnownAre W' bm (K ++ [x]) := by
  refine ⟨_, hD.put _ _, by rw [List.length_append]; exact h, fun y => ?_⟩
  by_cases e : y = x
  · subst e
    exact .inr ⟨has_put_same hD keyLitS _, K.length, by simp, atKey_put_same hD keyLitS _ _⟩
  · rcases hok y with hk | ⟨hk, n, hn, hat⟩
    · exact .inl (by rw [has_put_other (lt_ne e)]; exact hk)
    · refine .inr ⟨by rw [has_put_other (lt_ne e)]; exact hk, n, ?_, by rw [atKey_put_other (lt_ne e), hat]⟩
      rw [List.getElem?_append_left (List.getElem?_eq_some_iff.1 hn).1]; exact hn

/-! ### What the builder holds -/
structure SpanD where
  g : Nat
  o : Nat
  e : ExprD
  p : Nat
  q : Nat
def span3 (s : SpanD) : List Value := [.pointer (some ⟨s.g, s.o, none⟩), .int .i64 (s.p : Int), .int .i64 (s.q : Int)]
def spanL (l : List SpanD) : List Value := l.flatMap span3
/-- The words of a text's bytes. -/
def wordsOf (t : List UInt8) : List Nat := t.foldl (fun ws c => addS ws c.toNat) (List.replicate 4 0)
theorem wordsOf_length (t : List UInt8) : (wordsOf t).length = 4 := by
  unfold wordsOf
  suffices h : ∀ (t : List UInt8) (ws : List Nat), (t.foldl (fun ws c => addS ws c.toNat) ws).length = ws.length from h t _
  intro t
  induction t with
  | nil => intro ws; rfl
  | cons c t ih => intro ws; rw [List.foldl_cons, ih, addS_length]
theorem foldl_in (c : UInt8) : ∀ (t : List UInt8) (ws : List Nat), ws.length = 4 → inS (t.foldl (fun ws c => addS ws c.toNat) ws) c.toNat = (inS ws c.toNat || decide (c ∈ t)) := by
  intro t
  induction t with
  | nil => intro ws _; simp
  | cons a t ih =>
    intro ws h
    have ha : a.toNat / 64 < ws.length := by have := a.toNat_lt; omega
    rw [List.foldl_cons, ih _ (by rw [addS_length]; exact h), inS_add ha, Bool.or_assoc]
    congr 1
    rw [Bool.eq_iff_iff]
    simp only [Bool.or_eq_true, decide_eq_true_eq, List.mem_cons]
    refine or_congr ?_ Iff.rfl
    constructor
    · intro h; exact (UInt8.toNat_inj.1 h).symm
    · intro h; rw [h]
theorem wordsOf_in (t : List UInt8) (c : UInt8) : inS (wordsOf t) c.toNat = decide (c ∈ t) := by
  unfold wordsOf
  rw [foldl_in c t _ (by simp), inS_none, Bool.false_or]
structure BData where
  outs : List Int
  ways : List WayD
  svs : List Value
  K : List (List UInt8)
  opn : List SpanD
structure BSt (B : Nat) (W : World) (b : Nat) (ov wv yv : Value) (st en : Int) (pv : Value) (bm : Nat) (D : BData) : Prop where
  box : BBox W b ov wv yv st en pv (.map (some bm))
  bB : B ≤ b
  out : W.ownsRow B 3 1 ov D.outs.length (i64s D.outs)
  ways : W.ownsRow B 203 3 wv D.ways.length (wayL D.ways)
  byt : W.ownsRow B 158 1 yv D.svs.length D.svs
  len : D.svs.length = D.K.length
  sets : ∀ (i : Nat) (v : Value), D.svs[i]? = some v → ∃ t, D.K[i]? = some t ∧ SetRow B W v (wordsOf t)
  opn : W.ownsRow B 195 3 pv D.opn.length (spanL D.opn)
  mB : B ≤ bm
  kn : KnownAre W bm D.K
/-- Blocks of some types alone have been written. -/
structure TyG (T : List TypeId) (w w' : World) : Prop where
  size : w.heap.size ≤ w'.heap.size
  same : ∀ (k : Nat) (o : Obj), w.heap[k]? = some o → (∀ c t fr, o = .cells c t fr → t ∉ T) → w'.heap[k]? = some o
theorem TyG.trans {T : List TypeId} {A B C : World} (h : TyG T A B) (h2 : TyG T B C) : TyG T A C := ⟨Nat.le_trans h.size h2.size, fun k o hk ho => h2.same k o (h.same k o hk ho) ho⟩
theorem TyG.mono {T T' : List TypeId} {A B : World} (h : TyG T A B) (hs : ∀ t ∈ T, t ∈ T') : TyG T' A B := ⟨h.size, fun k o hk ho => h.same k o hk (fun c t fr e ht => ho c t fr e (hs t ht))⟩
theorem TyG.row {T : List TypeId} {W W' : World} {B t size n : Nat} {v : Value} {xs : List Value} (h : TyG T W W') (ho : W.ownsRow B t size v n xs) (ht : t ∉ T) : W'.ownsRow B t size v n xs := by
  refine ⟨ho.1, ?_⟩
  rcases ho.2 with h2 | ⟨g, cap, cur, e, hbb, hg, r⟩
  · exact .inl h2
  · exact .inr ⟨g, cap, cur, e, hbb, h.same g _ hg (fun c t' fr e => by cases e; exact ht), r⟩
theorem TyG.set {T : List TypeId} {W W' : World} {B : Nat} {v : Value} {ws : List Nat} (h : TyG T W W') (ho : SetRow B W v ws) (ht : 204 ∉ T) : SetRow B W' v ws := ⟨h.row ho.own ht, ho.lim⟩
theorem map_same {W W' : World} {R : Value → Option (DataW Unit × List MemPlace)} {b n : Nat} {D : DataW Unit} (h : W.ownsMap Tryz.prog 9 R b n D) (he : W'.heap[b]? = W.heap[b]?) : W'.ownsMap Tryz.prog 9 R b n D := by
  obtain ⟨es, cl, h1, r⟩ := h
  exact ⟨es, cl, he.trans h1, r⟩
theorem map_obj {W : World} {R : Value → Option (DataW Unit × List MemPlace)} {b n : Nat} {D : DataW Unit} (h : W.ownsMap Tryz.prog 9 R b n D) : ∃ es cl, W.heap[b]? = some (.map es cl) := by
  obtain ⟨es, cl, h1, r⟩ := h
  exact ⟨es, cl, h1⟩
theorem KnownAre.same {W W' : World} {bm : Nat} {K : List (List UInt8)} (h : KnownAre W bm K) (he : W'.heap[bm]? = W.heap[bm]?) : KnownAre W' bm K := by
  obtain ⟨D, hD, h1, h2⟩ := h
  exact ⟨D, hD, map_same h1 he, h2⟩
theorem TyG.kn {T : List TypeId} {W W' : World} {bm : Nat} {K : List (List UInt8)} (h : TyG T W W') (hk : KnownAre W bm K) : KnownAre W' bm K := by
  obtain ⟨D, hD, h1, h2⟩ := hk
  obtain ⟨es, cl, e⟩ := map_obj h1
  exact ⟨D, hD, map_same h1 ((h.same bm _ e (fun c t fr e => by cases e)).trans e.symm), h2⟩
/-- What a call on the builder leaves alone. -/
structure FrB (B : Nat) (pv pv' : Value) (W W' : World) : Prop where
  bel : Below B W W'
  pvn : pv'.ownBlock = pv.ownBlock ∨ ∀ g, pv'.ownBlock = some g → W.heap.size ≤ g
  box : ∀ (z : Nat) (cs : Array Value) (t : TypeId), W.heap[z]? = some (.cells cs t (0, 0)) → t = 195 → pv.ownBlock ≠ some z → W'.heap[z]? = some (.cells cs t (0, 0))
theorem FrB.trans {B : Nat} {p q r : Value} {X Y Z : World} (h : FrB B p q X Y) (h2 : FrB B q r Y Z) : FrB B p r X Z := by
  refine ⟨h.bel.trans h2.bel, ?_, fun z cs t hz ht hne => h2.box z cs t (h.box z cs t hz ht hne) ht (fun e => ?_)⟩
  · rcases h2.pvn with e | e
    · rcases h.pvn with e' | e'
      · exact .inl (e.trans e')
      · exact .inr (fun g hg => e' g (e ▸ hg))
    · exact .inr (fun g hg => Nat.le_trans h.bel.size (e g hg))
  · rcases h.pvn with e' | e'
    · exact hne (e' ▸ e)
    · have := e' z e
      have := (Array.getElem?_eq_some_iff.1 hz).1
      omega
theorem FrB.refl (B : Nat) (p : Value) (X : World) : FrB B p p X X := ⟨Below.refl _ _, .inl rfl, fun _ _ _ h _ _ => h⟩
theorem own_cells {B t size n g : Nat} {W : World} {v : Value} {xs : List Value} (ho : W.ownsRow B t size v n xs) (hg : v.ownBlock = some g) : B ≤ g ∧ ∃ cur, W.heap[g]? = some (.cells cur t (0, 0)) := by
  rcases ho.2 with ⟨rfl, _⟩ | ⟨g', cap, cur, rfl, hb, h, _⟩
  · cases hg
  · cases hg; exact ⟨hb, cur, h⟩
/-- What was written are blocks of some types, all of the builder's own. -/
theorem grown_ty {B : Nat} {w w' : World} {T : List TypeId} {ex : List (Option Nat)} (h : GrowN w w' ex) (hT : ∀ g, some g ∈ ex → B ≤ g ∧ ∃ cur t, t ∈ T ∧ w.heap[g]? = some (.cells cur t (0, 0))) (hB : B ≤ w.heap.size) : TyG T w w' ∧ Below B w w' := by
  refine ⟨⟨h.size, fun k o hk ho => ?_⟩, h.os, h.tape, h.output, h.size, fun k hk => h.block k (by omega) (fun e => ?_)⟩
  · refine (h.block k (Array.getElem?_eq_some_iff.1 hk).1 (fun e => ?_)).trans hk
    obtain ⟨_, cur, t, ht, hc⟩ := hT k e
    rw [hk] at hc
    cases hc
    exact ho _ _ _ rfl ht
  · have := (hT k e).1; omega
theorem Grow2.toN {w w' : World} {p q : Option Nat} (h : Grow2 w w' p q) : GrowN w w' [p, q] := ⟨h.os, h.tape, h.output, h.size, fun k hk hne => h.block k hk (fun e => hne (by simp [e])) (fun e => hne (by simp [e]))⟩
theorem FrB.of_ty {B : Nat} {T : List TypeId} {pv : Value} {W W' : World} (h : TyG T W W') (hb : Below B W W') (h89 : 195 ∉ T) : FrB B pv pv W W' := ⟨hb, .inl rfl, fun z cs t hz ht _ => h.same z _ hz (fun c t' fr e => by cases e; subst ht; exact h89)⟩
theorem grow_st (B b : Nat) (ov wv yv : Value) (st en : Int) (pv : Value) (bm : Nat) (D : BData) (w : World) (h : BSt B w b ov wv yv st en pv bm D) (hl : D.outs.length ≤ 1000000000) (hB : B ≤ w.heap.size) :
    Calls Tryz.prog 110 #[.pointer (some ⟨b, 0, none⟩)] w fun e w' => e = .returned (.int .i64 (D.outs.length : Int)) ∧ ∃ ov', BSt B w' b ov' wv yv st en pv bm { D with outs := D.outs ++ [-1] } ∧ FrB B pv pv w w' := by
  refine (grow_any B b ov wv yv st en pv _ D.outs w h.box h.out hl hB).mono ?_
  rintro e w' ⟨rfl, ov', h1, h2, h3⟩
  have hg := grown_ty (B := B) (T := [191, 3]) h3.toN (fun g hg => by
    simp only [List.mem_cons, List.not_mem_nil, or_false] at hg
    rcases hg with hg | hg
    · cases hg; exact ⟨h.bB, _, 191, by simp, h.box⟩
    · obtain ⟨hb, cur, hc⟩ := own_cells h.out hg.symm
      exact ⟨hb, cur, 3, by simp, hc⟩) hB
  refine ⟨rfl, ov', ⟨h1, h.bB, h2, hg.1.row h.ways (by decide), hg.1.row h.byt (by decide), h.len, fun i v hv => ?_, hg.1.row h.opn (by decide), h.mB, hg.1.kn h.kn⟩, FrB.of_ty hg.1 hg.2 (by decide)⟩
  obtain ⟨t, ht, hs⟩ := h.sets i v hv
  exact ⟨t, ht, hg.1.set hs (by decide)⟩
theorem link_st (B b : Nat) (ov wv yv : Value) (st en : Int) (pv : Value) (bm : Nat) (D : BData) (fr : Nat) (to by_ o : Int) (w : World) (h : BSt B w b ov wv yv st en pv bm D) (hfr : D.outs[fr]? = some o) (hl : D.ways.length ≤ 1000000000) (hB : B ≤ w.heap.size) :
    Calls Tryz.prog 125 #[.pointer (some ⟨b, 0, none⟩), .int .i64 (fr : Int), .int .i64 to, .int .i64 by_] w fun e w' => e = .returned (.tuple #[]) ∧ ∃ wv', BSt B w' b ov wv' yv st en pv bm { D with outs := D.outs.set fr (D.ways.length : Int), ways := D.ways ++ [⟨to, by_, o⟩] } ∧ FrB B pv pv w w' := by
  have hpos : 0 < D.outs.length := by have := (List.getElem?_eq_some_iff.1 hfr).1; omega
  obtain ⟨g, cap, rfl, hgB, _⟩ := h.out.form hpos
  refine (link_any B b g cap wv yv st en pv _ D.outs D.ways fr to by_ o w h.box h.out h.ways hfr hl hB).mono ?_
  rintro e w' ⟨rfl, wv', h1, h2, h3, h4⟩
  have hg := grown_ty (B := B) (T := [191, 3, 203]) h4 (fun g' hg => by
    simp only [List.mem_cons, List.not_mem_nil, or_false] at hg
    rcases hg with hg | hg | hg
    · cases hg; exact ⟨h.bB, _, 191, by simp, h.box⟩
    · cases hg
      obtain ⟨hb, cur, hc⟩ := own_cells h.out rfl
      exact ⟨hb, cur, 3, by simp, hc⟩
    · obtain ⟨hb, cur, hc⟩ := own_cells h.ways hg.symm
      exact ⟨hb, cur, 203, by simp, hc⟩) hB
  refine ⟨rfl, wv', ⟨h1, h.bB, ?_, h3, hg.1.row h.byt (by decide), h.len, fun i v hv => ?_, hg.1.row h.opn (by decide), h.mB, hg.1.kn h.kn⟩, FrB.of_ty hg.1 hg.2 (by decide)⟩
  · rw [List.length_set]; exact h2
  · obtain ⟨t, ht, hs⟩ := h.sets i v hv
    exact ⟨t, ht, hg.1.set hs (by decide)⟩
theorem Tryz.info195 : (Tryz.prog.info? 195).map (fun i => (i.zero, i.size, i.bytes)) = some (some (.agg #[.pointer none, .int .i64 0, .int .i64 0]), 3, 24) := by kernel_rfl
theorem Tryz.underlying189 : Tryz.prog.underlying 189 = some (.slice 195) := by kernel_rfl
theorem BBox.set5 {W : World} {b : Nat} {ov wv yv : Value} {st en : Int} {pv kv : Value} (h : BBox W b ov wv yv st en pv kv) (u : Value) : BBox (W.setCell ⟨b, 5, none⟩ u) b ov wv yv st en u kv := by
  obtain ⟨hlt, hk⟩ := Array.getElem?_eq_some_iff.1 h
  show (W.heap.modify b _)[b]? = _
  rw [Array.getElem?_eq_getElem (by rw [Array.size_modify]; exact hlt), Array.getElem_modify_self, hk]
  rfl
set_option maxRecDepth 100000 in
set_option maxHeartbeats 1000000 in
theorem leave_st (B b : Nat) (ov wv yv : Value) (st en : Int) (pv : Value) (bm : Nat) (D : BData) (s : SpanD) (w : World) (h : BSt B w b ov wv yv st en pv bm D) (hl : D.opn.length ≤ 1000000000) (hB : B ≤ w.heap.size) :
    Calls Tryz.prog 111 #[.pointer (some ⟨b, 0, none⟩), .pointer (some ⟨s.g, s.o, none⟩), .int .i64 (s.p : Int), .int .i64 (s.q : Int)] w fun e w' => e = .returned (.tuple #[]) ∧ ∃ pv', BSt B w' b ov wv yv st en pv' bm { D with opn := D.opn ++ [s] } ∧ FrB B pv pv' w w' := by
  obtain ⟨i0, hi, hz0, hz1, hz2⟩ := info_parts Tryz.info195
  obtain ⟨_, _, _, _, _, c5, _, cf⟩ := h.box.cells
  have f5 := cf 5
  have hblt : b < w.heap.size := (Array.getElem?_eq_some_iff.1 h.box).1
  have hnb := own_not_box h.opn h.box (by decide)
  have hown := h.opn
  have HN : Hid (∀ (j : Nat) (u : Value), (span3 s)[j]? = some u → (w.alloc (.cells #[.pointer (some ⟨s.g, s.o, none⟩), .int .i64 (s.p : Int), .int .i64 (s.q : Int)] 195)).cell? ((⟨w.heap.size, 0, none⟩ : Addr).add j) = some u) := World.news_of_block (cs := #[.pointer (some ⟨s.g, s.o, none⟩), .int .i64 (s.p : Int), .int .i64 (s.q : Int)]) (World.alloc_heap_new w _)
  have H := hide h
  clear h cf
  go_enter Tryz.func111, Tryz.ntmps111
  go_wp2_with (at_builtin; refine wpList_append_lies _ rfl (.tmp 12) (.tmp 17) 189 rfl B 195 i0 _ 3 24 Tryz.underlying189 hi hz0 hz1 hz2 rfl (by decide) pv D.opn.length (spanL D.opn) rfl (hown.alloc _) ⟨w.heap.size, 0, none⟩ 1 1 (span3 s) rfl rfl (unhide HN) (by simp [span3, Value.oneCell']) (by decide) (by unfold maxLen; omega) (by omega) (by simp; omega) _ rfl ?_)
  intro g' cap' w1 hown' hgrow hat hlt
  have hal : Below w.heap.size w (w.alloc (.cells #[.pointer (some ⟨s.g, s.o, none⟩), .int .i64 (s.p : Int), .int .i64 (s.q : Int)] 195)) := (Below.refl _ _).alloc (Nat.le_refl _) _
  have hbx1 : BBox w1 b ov wv yv st en pv (.map (some bm)) := (hgrow.block b (Nat.lt_of_lt_of_le hblt hal.size) (fun e => hnb e.symm)).trans ((hal.block b hblt).trans H.out.box)
  obtain ⟨_, _, _, _, _, d5, _, df⟩ := hbx1.cells
  have e5 := df 5
  have HOWN := hide hown'
  have HGR := hide hgrow
  have HBX1 := hide hbx1
  clear df hown' hgrow hbx1 hown c5 f5
  go_wp2
  first | refine bodyPost_ret (results_none rfl _ _ _) rfl ?_ | refine bodyPost_end (results_none rfl _ _ _) rfl ?_
  have h := H.out
  have h1 := HGR.out
  have h2 := set_grown w1 b 5 (Value.slice (some ⟨g', 0, none⟩) (D.opn.length + 1) cap')
  have hG : GrowN w (w1.setCell ⟨b, 5, none⟩ (Value.slice (some ⟨g', 0, none⟩) (D.opn.length + 1) cap')) [some b, pv.ownBlock] := by
    refine ⟨h2.os.trans (h1.os.trans hal.os), h2.tape.trans (h1.tape.trans hal.tape), h2.output.trans (h1.output.trans hal.output), Nat.le_trans hal.size (Nat.le_trans h1.size h2.size), fun k hk hne => ?_⟩
    simp only [List.mem_cons, not_or, List.not_mem_nil, not_false_eq_true, and_true] at hne
    have hk1 := Nat.lt_of_lt_of_le hk hal.size
    exact (h2.block k (Nat.lt_of_lt_of_le hk1 h1.size) hne.1).trans ((h1.block k hk1 hne.2).trans (hal.block k hk))
  have hg := grown_ty (B := B) (T := [191, 195]) hG (fun g hg => by
    simp only [List.mem_cons, List.not_mem_nil, or_false] at hg
    rcases hg with hg | hg
    · cases hg; exact ⟨h.bB, _, 191, by simp, h.box⟩
    · obtain ⟨hb, cur, hc⟩ := own_cells h.opn hg.symm
      exact ⟨hb, cur, 195, by simp, hc⟩) hB
  refine ⟨rfl, _, ⟨HBX1.out.set5 _, h.bB, hg.1.row h.out (by decide), hg.1.row h.ways (by decide), hg.1.row h.byt (by decide), h.len, fun i v hv => ?_, ?_, h.mB, hg.1.kn h.kn⟩, hg.2, ?_, fun z cs t hz ht hne => ?_⟩
  · obtain ⟨t, ht, hs⟩ := h.sets i v hv
    exact ⟨t, ht, hg.1.set hs (by decide)⟩
  · have e : spanL (D.opn ++ [s]) = spanL D.opn ++ span3 s := by simp [spanL]
    have e2 : (D.opn ++ [s]).length = D.opn.length + 1 := by simp
    show World.ownsRow _ B 195 3 _ (D.opn ++ [s]).length (spanL (D.opn ++ [s]))
    rw [e, e2]
    exact ownsRow_setCell_other HOWN.out (a := ⟨b, 5, none⟩) (own_not_box HOWN.out HBX1.out (by decide)) _
  · rcases hat with e | e
    · exact .inl e.symm
    · exact .inr (fun g e2 => by have e3 : g' = g := Option.some.inj e2; omega)
  · refine (hG.block z (Array.getElem?_eq_some_iff.1 hz).1 (fun e => ?_)).trans hz
    simp only [List.mem_cons, List.not_mem_nil, or_false] at e
    rcases e with e | e
    · cases e
      have := h.box
      unfold BBox at this
      rw [hz] at this
      cases this
      cases ht
    · exact hne e.symm
end Go.Proofs.YtjbdoeoimodhkaaGreatDoor
