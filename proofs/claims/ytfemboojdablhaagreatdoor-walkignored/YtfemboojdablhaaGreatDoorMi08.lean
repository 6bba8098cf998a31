/- Merged: ABuild, AOpen. -/
import Derived.Test.YtfemboojdablhaaGreatDoorMi07
import Derived.Deep.LoopGhost
import Derived.Lib.SliceRun
namespace Go.Proofs.YtfemboojdablhaaGreatDoor
open Go.RowKit Go.Maps
theorem one_edge (e : ExprD) (t : List UInt8) : GPath [⟨0, .ex e, 1⟩] 0 1 t ↔ InE e t := by
  constructor
  · intro h
    have hone : ∀ {p q : Nat} {u : List UInt8}, GPath [⟨0, .ex e, 1⟩] p q u → p = 1 → u = [] := by
      intro p q u h
      cases h with
      | nil => intro _; rfl
      | step ed q s t hed hs h =>
        rw [List.mem_singleton] at hed
        subst hed
        intro h; cases h
    have htwo : ∀ {p q : Nat} {u : List UInt8}, GPath [⟨0, .ex e, 1⟩] p q u → p = 0 → q = 1 → InE e u := by
      intro p q u h
      cases h with
      | nil => intro h1 h2; omega
      | step ed q s t hed hs h =>
        rw [List.mem_singleton] at hed
        subst hed
        intro _ _
        have := hone h rfl
        subst this
        rw [List.append_nil]; exact hs
    exact htwo h rfl rfl
  · intro h
    exact GPath.one (e := ⟨0, .ex e, 1⟩) (by simp) h
theorem start_inv (e : ExprD) (g o : Nat) : GInv ⟨[-1, -1], [], [], [], [⟨g, o, e, 0, 1⟩]⟩ e (fun _ => []) [] := by
  refine ⟨Nat.le_refl _, fun k hk => ?_, fun k hk d hd => (by cases hd), fun ed => ?_, fun s hs => ?_, fun t => one_edge e t, ?_, ?_, ?_⟩
  · have hk' : k < 2 := hk
    refine ⟨-1, ?_, .done⟩
    rcases Nat.lt_or_ge k 1 with h | h
    · have : k = 0 := by omega
      subst this; rfl
    · have : k = 1 := by omega
      subst this; rfl
  · constructor
    · intro h; cases h
    · rintro ⟨_, d, hd, _⟩; cases hd
  · rw [List.mem_singleton] at hs
    subst hs
    exact ⟨show 0 < 2 by decide, show 1 < 2 by decide⟩
  · show 2 + wS [_] ≤ _; rw [wS_one]; exact Nat.le_refl _
  · show 0 + 2 * wS [_] ≤ _; rw [wS_one]; show 0 + 2 * wt e ≤ _; omega
  · show 0 + wS [_] ≤ _; rw [wS_one]; show 0 + wt e ≤ _; omega
theorem BBox.set3 {W : World} {b : Nat} {ov wv yv : Value} {st en : Int} {pv kv : Value} (h : BBox W b ov wv yv st en pv kv) (x : Int) : BBox (W.setCell ⟨b, 3, none⟩ (.int .i64 x)) b ov wv yv x en pv kv := by
  obtain ⟨hlt, hk⟩ := Array.getElem?_eq_some_iff.1 h
  show (W.heap.modify b _)[b]? = _
  rw [Array.getElem?_eq_getElem (by rw [Array.size_modify]; exact hlt), Array.getElem_modify_self, hk]
  rfl
theorem BBox.set4 {W : World} {b : Nat} {ov wv yv : Value} {st en : Int} {pv kv : Value} (h : BBox W b ov wv yv st en pv kv) (x : Int) : BBox (W.setCell ⟨b, 4, none⟩ (.int .i64 x)) b ov wv yv st x pv kv := by
  obtain ⟨hlt, hk⟩ := Array.getElem?_eq_some_iff.1 h
  show (W.heap.modify b _)[b]? = _
  rw [Array.getElem?_eq_getElem (by rw [Array.size_modify]; exact hlt), Array.getElem_modify_self, hk]
  rfl
theorem set_ty {B : Nat} {W : World} {b i : Nat} {ov wv yv : Value} {st en : Int} {pv : Value} {bm : Nat} {D : BData} (h : BSt B W b ov wv yv st en pv bm D) (u : Value) (hB : B ≤ W.heap.size) : TyG [281] W (W.setCell ⟨b, i, none⟩ u) ∧ Below B W (W.setCell ⟨b, i, none⟩ u) := by
  have hs := set_grown W b i u
  refine grown_ty (ex := [some b]) ⟨hs.os, hs.tape, hs.output, hs.size, fun k hk hne => hs.block k hk (fun e => hne (by simp [e]))⟩ (fun g hg => ?_) hB
  simp only [List.mem_singleton, Option.some.injEq] at hg
  subst hg
  exact ⟨h.bB, _, 281, by simp, h.box⟩
theorem BSt.box' {B : Nat} {W W' : World} {b : Nat} {ov wv yv : Value} {st en st' en' : Int} {pv : Value} {bm : Nat} {D : BData} (h : BSt B W b ov wv yv st en pv bm D) (hg : TyG [281] W W') (hb : BBox W' b ov wv yv st' en' pv (.map (some bm))) : BSt B W' b ov wv yv st' en' pv bm D := by
  refine ⟨hb, h.bB, hg.row h.out (by decide), hg.row h.ways (by decide), hg.row h.byt (by decide), h.len, fun i v hv => ?_, hg.row h.opn (by decide), h.mB, hg.kn h.kn⟩
  obtain ⟨t, ht, hs⟩ := h.sets i v hv
  exact ⟨t, ht, hg.set hs (by decide)⟩
theorem spanL_len (l : List SpanD) : (spanL l).length = l.length * 3 := by
  induction l with
  | nil => rfl
  | cons s l ih => simp only [spanL, List.flatMap_cons, List.length_append] at ih ⊢; rw [ih]; simp [span3]; omega
theorem spanL_at (l : List SpanD) (s : SpanD) (j : Nat) (hj : j < 3) : (spanL (l ++ [s]))[l.length * 3 + j]? = (span3 s)[j]? := by
  have e : spanL (l ++ [s]) = spanL l ++ span3 s := by simp [spanL]
  rw [e, List.getElem?_append_right (by rw [spanL_len]; omega), spanL_len]
  congr 1
  omega
theorem last_cells {B : Nat} {W : World} {gp cp : Nat} {l : List SpanD} {s : SpanD} (h : W.ownsRow B 284 3 (.slice (some ⟨gp, 0, none⟩) (l ++ [s]).length cp) (l ++ [s]).length (spanL (l ++ [s]))) : W.cell? ⟨gp, l.length * 3, none⟩ = some (.pointer (some ⟨s.g, s.o, none⟩)) ∧ W.cell? ⟨gp, l.length * 3 + 1, none⟩ = some (.int .i64 (s.p : Int)) ∧ W.cell? ⟨gp, l.length * 3 + 2, none⟩ = some (.int .i64 (s.q : Int)) := by
  have hl : (l ++ [s]).length = l.length + 1 := by simp
  have key : ∀ j, j < 3 → W.cell? ⟨gp, l.length * 3 + j, none⟩ = (span3 s)[j]? := by
    intro j hj
    have h1 := h.cellAt (l.length * 3 + j) (by rw [hl]; omega)
    rw [h1, spanL_at l s j hj]
  exact ⟨key 0 (by decide), key 1 (by decide), key 2 (by decide)⟩
theorem pop_row {B : Nat} {W : World} {gp cp : Nat} {l : List SpanD} {s : SpanD} (h : W.ownsRow B 284 3 (.slice (some ⟨gp, 0, none⟩) (l ++ [s]).length cp) (l ++ [s]).length (spanL (l ++ [s]))) : W.ownsRow B 284 3 (.slice (some ⟨gp, 0, none⟩) l.length cp) l.length (spanL l) := by
  refine ⟨spanL_len l, ?_⟩
  rcases h.2 with ⟨e, _⟩ | ⟨g', cap', cur, e, hbb, hg2, h1, h2, h3, h4⟩
  · cases e
  · have hl : (l ++ [s]).length = l.length + 1 := by simp
    simp only [Value.slice.injEq, Option.some.injEq, Addr.mk.injEq] at e
    obtain ⟨⟨e1, _⟩, _, e3⟩ := e
    subst e1
    subst e3
    refine .inr ⟨gp, cp, cur, rfl, hbb, hg2, by omega, h2, h3, ?_⟩
    have e2 : spanL (l ++ [s]) = spanL l ++ span3 s := by simp [spanL]
    rw [e2] at h4
    have h5 := congrArg (List.take (l.length * 3)) h4
    rw [List.take_take, List.take_left' (spanL_len l), Nat.min_eq_left (by omega)] at h5
    exact h5
theorem pop_st {B : Nat} {W : World} {b : Nat} {ov wv yv : Value} {st en : Int} {bm gp cp : Nat} {outs : List Int} {ways : List WayD} {svs : List Value} {K : List (List UInt8)} {l : List SpanD} {s : SpanD} (h : BSt B W b ov wv yv st en (.slice (some ⟨gp, 0, none⟩) (l ++ [s]).length cp) bm ⟨outs, ways, svs, K, l ++ [s]⟩) (hB : B ≤ W.heap.size) :
    BSt B (W.setCell ⟨b, 5, none⟩ (.slice (some ⟨gp, 0, none⟩) l.length cp)) b ov wv yv st en (.slice (some ⟨gp, 0, none⟩) l.length cp) bm ⟨outs, ways, svs, K, l⟩ ∧ TyG [281] W (W.setCell ⟨b, 5, none⟩ (.slice (some ⟨gp, 0, none⟩) l.length cp)) ∧ Below B W (W.setCell ⟨b, 5, none⟩ (.slice (some ⟨gp, 0, none⟩) l.length cp)) := by
  have hg := set_ty (i := 5) h (.slice (some ⟨gp, 0, none⟩) l.length cp) hB
  refine ⟨⟨h.box.set5 _, h.bB, hg.1.row h.out (by decide), hg.1.row h.ways (by decide), hg.1.row h.byt (by decide), h.len, fun i v hv => ?_, ?_, h.mB, hg.1.kn h.kn⟩, hg⟩
  · obtain ⟨t, ht, hs⟩ := h.sets i v hv
    exact ⟨t, ht, hg.1.set hs (by decide)⟩
  · exact hg.1.row (pop_row h.opn) (by decide)
theorem layD_at {B : Nat} {W : World} {D D' : BData} {op : Int} {tx : List UInt8} {ks : List ExprD} {p q : Nat} (h : LayD B W D op tx ks p q D') (hat : SpAt B W D.opn) : SpAt B W D'.opn := by
  have app : ∀ sp, SpAt B W sp → SpAt B W (D.opn ++ sp) := fun sp h2 s hs => by
    rcases List.mem_append.1 hs with hs | hs
    · exact hat s hs
    · exact h2 s hs
  cases h with
  | free => exact hat
  | none => exact hat
  | byte => exact hat
  | row sp _ _ _ h2 => exact app sp h2
  | choice sp _ _ h2 => exact app sp h2
  | again _ sp _ _ _ h2 => exact app sp h2
set_option maxRecDepth 100000 in
set_option maxHeartbeats 4000000 in
theorem build_any (g o : Nat) (e0 : ExprD) (w : World) (he : ExprAt w.heap.size w g o e0) (hwt : wt e0 ≤ 100000000) :
    Calls Tryz.prog 164 #[.pointer (some ⟨g, o, none⟩)] w fun e w' => ∃ (b : Nat) (D : BData) (ov wv yv pv : Value) (bm : Nat) (ch : Nat → List WayD) (Gd : List Edge), e = .returned (.pointer (some ⟨b, 0, none⟩)) ∧ BSt w.heap.size w' b ov wv yv 0 1 pv bm D ∧ GInv D e0 ch Gd ∧ D.opn = [] ∧ Below w.heap.size w w' := by
  have hmm := @run_makeMap Tryz.prog
  go_enter Tryz.func164, Tryz.ntmps164
  go_wp2
  have hbx : BBox ((w.alloc (.map #[] 0)).alloc (.cells #[.slice none 0 0, .slice none 0 0, .slice none 0 0, .int .i64 0, .int .i64 0, .slice none 0 0, .map (some w.heap.size)] 281)) (w.heap.size + 1) (.slice none 0 0) (.slice none 0 0) (.slice none 0 0) 0 0 (.slice none 0 0) (.map (some w.heap.size)) := by
    have := World.alloc_heap_new (w.alloc (.map #[] 0)) (.cells #[.slice none 0 0, .slice none 0 0, .slice none 0 0, .int .i64 0, .int .i64 0, .slice none 0 0, .map (some w.heap.size)] 281)
    rw [World.size_alloc] at this
    exact this
  have hmp : KnownAre ((w.alloc (.map #[] 0)).alloc (.cells #[.slice none 0 0, .slice none 0 0, .slice none 0 0, .int .i64 0, .int .i64 0, .slice none 0 0, .map (some w.heap.size)] 281)) w.heap.size [] := by
    refine KnownAre.same (W := w.alloc (.map #[] 0)) ⟨_, isMap_empty, World.ownsMap_made .., fun x => .inl rfl⟩ (Below.heap_alloc _ _ _ (by simp))
  have hbl : Below w.heap.size w ((w.alloc (.map #[] 0)).alloc (.cells #[.slice none 0 0, .slice none 0 0, .slice none 0 0, .int .i64 0, .int .i64 0, .slice none 0 0, .map (some w.heap.size)] 281)) := ((Below.refl _ _).alloc (Nat.le_refl _) _).alloc (by simp) _
  obtain ⟨W0, hW0⟩ : ∃ W0, (w.alloc (.map #[] 0)).alloc (.cells #[.slice none 0 0, .slice none 0 0, .slice none 0 0, .int .i64 0, .int .i64 0, .slice none 0 0, .map (some w.heap.size)] 281) = W0 := ⟨_, rfl⟩
  rw [hW0] at hbx hmp hbl ⊢
  have nl : ∀ t sz, W0.ownsRow w.heap.size t sz (.slice none 0 0) 0 [] := fun t sz => ⟨by simp, .inl ⟨rfl, rfl⟩⟩
  have hst0 : BSt w.heap.size W0 (w.heap.size + 1) (.slice none 0 0) (.slice none 0 0) (.slice none 0 0) 0 0 (.slice none 0 0) w.heap.size ⟨[], [], [], [], []⟩ := ⟨hbx, by omega, nl _ _, nl _ _, nl _ _, rfl, fun i v hv => (by cases hv), nl _ _, Nat.le_refl _, hmp⟩
  have hB0 : w.heap.size ≤ W0.heap.size := hbl.size
  have hgr : Calls Tryz.prog 198 #[.pointer (some ⟨w.heap.size + 1, 0, none⟩)] W0.drew fun e w' => e = .returned (.int .i64 0) ∧ ∃ ov', BSt w.heap.size w' (w.heap.size + 1) ov' (.slice none 0 0) (.slice none 0 0) 0 0 (.slice none 0 0) w.heap.size ⟨[-1], [], [], [], []⟩ ∧ FrB w.heap.size (.slice none 0 0) (.slice none 0 0) W0.drew w' := (grow_st w.heap.size (w.heap.size + 1) _ _ _ 0 0 _ w.heap.size _ W0.drew (hst0.all (ty_drew _)) (by decide) hB0).mono (fun e w' h => ⟨h.1.trans (by simp), h.2⟩)
  have HGR2 : Hid (∀ (w2 : World) (ov2 : Value), BSt w.heap.size w2 (w.heap.size + 1) ov2 (.slice none 0 0) (.slice none 0 0) 0 0 (.slice none 0 0) w.heap.size ⟨[-1], [], [], [], []⟩ → w.heap.size ≤ w2.heap.size → Calls Tryz.prog 198 #[.pointer (some ⟨w.heap.size + 1, 0, none⟩)] w2 fun e w' => e = .returned (.int .i64 1) ∧ ∃ ov', BSt w.heap.size w' (w.heap.size + 1) ov' (.slice none 0 0) (.slice none 0 0) 0 0 (.slice none 0 0) w.heap.size ⟨[-1, -1], [], [], [], []⟩ ∧ FrB w.heap.size (.slice none 0 0) (.slice none 0 0) w2 w') := fun w2 ov2 h hB => (grow_st w.heap.size (w.heap.size + 1) _ _ _ 0 0 _ w.heap.size _ w2 h (by decide) hB).mono (fun e w' h => ⟨h.1.trans (by simp), h.2⟩)
  clear hW0 hmm hbx hmp nl hst0
  refine (fun (KEY : ∀ (ov3 : Value) (w3 : World), (BSt w.heap.size w3 (w.heap.size + 1) ov3 (.slice none 0 0) (.slice none 0 0) 0 0 (.slice none 0 0) w.heap.size ⟨[-1, -1], [], [], [], []⟩ ∧ Below w.heap.size w w3) → (?G : Value → World → Prop) ov3 w3) => ?main) ?key
  case main =>
    go_region_with (first
      | (go_at_call 198; refine hgr.mono ?_; rintro e w2 ⟨rfl, ov2, hst2, hfr2⟩; have hgr2 := (unhide HGR2) w2 ov2 hst2 (Nat.le_trans hB0 hfr2.bel.size))
      | (go_at_call 198; refine hgr2.mono ?_; rintro e w3 ⟨rfl, ov3, hst3, hfr3⟩; obtain ⟨_, _, _, c3, c4, _, _, cf⟩ := hst3.box.cells; have f3 := cf 3; have f4 := cf 4))
    all_goals exact KEY ov3 w3 ⟨hst3, hbl.trans ((Below.refl _ _).drew.trans (hfr2.bel.trans hfr3.bel))⟩
  case key =>
    rintro ov3 w3 ⟨hst3, hbel3⟩
    have hB3 : w.heap.size ≤ w3.heap.size := hbel3.size
    have ht1 := set_ty (i := 3) hst3 (.int .i64 0) hB3
    have hst4 := hst3.box' ht1.1 (hst3.box.set3 0)
    have ht2 := set_ty (i := 4) hst4 (.int .i64 1) (Nat.le_trans hB3 ht1.1.size)
    have hst5 := hst4.box' ht2.1 (hst4.box.set4 1)
    have hbel5 := hbel3.trans (ht1.2.trans ht2.2)
    clear hgr HGR2 ht1 ht2 hst4 hst3 hbel3 hB3
    obtain ⟨W5, hW5⟩ : ∃ W5, (w3.setCell ⟨w.heap.size + 1, 3, none⟩ (.int .i64 0)).setCell ⟨w.heap.size + 1, 4, none⟩ (.int .i64 1) = W5 := ⟨_, rfl⟩
    rw [hW5] at hst5 hbel5 ⊢
    clear hW5
    obtain ⟨_, _, _, c3, c4, _, _, _⟩ := hst5.box.cells
    have hlv := leave_st w.heap.size (w.heap.size + 1) ov3 _ _ 0 1 _ w.heap.size _ ⟨g, o, e0, 0, 1⟩ W5.drew (hst5.all (ty_drew _)) (by decide) hbel5.size
    have HBEL := hide hbel5
    clear hst5 hbel5
    go_wp2
    refine (fun (KEY : ∀ (pv6 : Value) (w6 : World), (BSt w.heap.size w6 (w.heap.size + 1) ov3 (.slice none 0 0) (.slice none 0 0) 0 1 pv6 w.heap.size ⟨[-1, -1], [], [], [], [⟨g, o, e0, 0, 1⟩]⟩ ∧ Below w.heap.size w w6) → (?G5 : Value → World → Prop) pv6 w6) => ?main5) ?key5
    case main5 =>
      go_region_with (go_at_call 199; refine hlv.mono ?_; rintro e w6 ⟨rfl, pv6, hst6, hfr6⟩)
      all_goals exact KEY pv6 w6 ⟨hst6, HBEL.out.trans ((Below.refl _ _).drew.trans hfr6.bel)⟩
    case key5 =>
      rintro pv6 w6 ⟨hst6, hbel6⟩
      clear hlv HBEL c3 c4
      go_wp2
      go_loopg [45] (wS [(⟨g, o, e0, 0, 1⟩ : SpanD)]) (fun k _ wr => ∃ (D : BData) (ov wv yv pv : Value) (ch : Nat → List WayD) (Gd : List Edge), BSt w.heap.size wr (w.heap.size + 1) ov wv yv 0 1 pv w.heap.size D ∧ GInv D e0 ch Gd ∧ SpAt w.heap.size wr D.opn ∧ Below w.heap.size w wr ∧ wS D.opn ≤ k)
      case atStart => exact ⟨_, ov3, _, _, pv6, _, _, hst6, start_inv e0 g o, fun s hs => (by rw [List.mem_singleton] at hs; subst hs; exact he.keep hbel6), hbel6, Nat.le_refl _⟩
      case round =>
        obtain ⟨D, ov, wv, yv, pv, ch, Gd, hst, hinv, hat, hbel, hk⟩ := hrel
        have hB : w.heap.size ≤ wr.heap.size := hbel.size
        rcases List.eq_nil_or_concat D.opn with hnil | ⟨l, s, hls⟩
        · obtain ⟨_, _, _, _, _, c5, _, _⟩ := hst.box.cells
          obtain ⟨pa, pc, rfl⟩ : ∃ a c, pv = .slice a 0 c := by
            rcases hst.opn.2 with ⟨e, _⟩ | ⟨gp, cp, cur, e, _⟩
            · exact ⟨_, _, e⟩
            · rw [hnil] at e; exact ⟨_, _, e⟩
          have H1 := hide hst
          have H2 := hide hinv
          clear hst hinv
          go_wp2
          go_ret
          exact ⟨_, D, ov, wv, yv, _, _, ch, Gd, rfl, H1.out, H2.out, hnil, hbel⟩
        · rw [List.concat_eq_append] at hls
          obtain ⟨outs, ways, svs, K, opn⟩ := D
          dsimp only at hls
          subst hls
          have hlen : (l ++ [s]).length = l.length + 1 := by simp
          have hrow : wr.ownsRow w.heap.size 284 3 pv (l ++ [s]).length (spanL (l ++ [s])) := hst.opn
          obtain ⟨gp, cp, rfl, hgpB, _⟩ := hrow.form (by simp)
          obtain ⟨q0, q1, q2⟩ := last_cells hrow
          have hcp : l.length + 1 ≤ cp := by
            rcases hrow.2 with ⟨e, _⟩ | ⟨g', cap', cur, e, _, _, h, _⟩
            · cases e
            · simp only [Value.slice.injEq] at e; rw [e.2.2]; omega
          obtain ⟨_, _, _, _, _, c5, _, cf⟩ := hst.box.cells
          have f5 := cf 5
          rw [hlen] at c5
          have sN : outs.length + wS (l ++ [s]) ≤ 2 + wt e0 := hinv.sN
          have sW : ways.length + 2 * wS (l ++ [s]) ≤ 2 * wt e0 := hinv.sW
          have sK : K.length + wS (l ++ [s]) ≤ wt e0 := hinv.sK
          have hll := len_wS l
          obtain ⟨op, tx, ks, hse⟩ : ∃ op tx ks, s.e = .mk op tx ks := by
            cases he' : s.e with
            | mk a b c => exact ⟨a, b, c, rfl⟩
          have hwse : wt s.e = wtL ks + 1 := by rw [hse, wt]
          have hwl := wtL_eq ks
          rw [wS_append, wS_one, hwse] at sN sW sK
          have hpq : s.p < outs.length ∧ s.q < outs.length := hinv.opn s (by simp)
          have hsub : ((l.length + 1 : Nat) : Int) - 1 = (l.length : Int) := by omega
          have hlb : l.length ≤ 100000000 := by omega
          have hal : TyG [] wr (wr.alloc (.cells #[.pointer (some ⟨s.g, s.o, none⟩), .int .i64 (s.p : Int), .int .i64 (s.q : Int)] 284)) := ty_alloc _ _
          have hbl2 : Below w.heap.size wr (wr.alloc (.cells #[.pointer (some ⟨s.g, s.o, none⟩), .int .i64 (s.p : Int), .int .i64 (s.q : Int)] 284)) := (Below.refl _ _).alloc hB _
          have hsta := hst.all hal
          have hbxn : SBox (wr.alloc (.cells #[.pointer (some ⟨s.g, s.o, none⟩), .int .i64 (s.p : Int), .int .i64 (s.q : Int)] 284)) wr.heap.size s.g s.o s.p s.q := World.alloc_heap_new wr _
          obtain ⟨hst7, hty7, hbel7⟩ := pop_st (l := l) (s := s) (gp := gp) (cp := cp) hsta (Nat.le_trans hB hbl2.size)
          have he7 : ExprAt w.heap.size ((wr.alloc (.cells #[.pointer (some ⟨s.g, s.o, none⟩), .int .i64 (s.p : Int), .int .i64 (s.q : Int)] 284)).setCell ⟨w.heap.size + 1, 5, none⟩ (.slice (some ⟨gp, 0, none⟩) l.length cp)) s.g s.o (.mk op tx ks) := by
            rw [← hse]
            exact ((hat s (by simp)).keep hbl2).keep hbel7
          have hsb7 : SBox ((wr.alloc (.cells #[.pointer (some ⟨s.g, s.o, none⟩), .int .i64 (s.p : Int), .int .i64 (s.q : Int)] 284)).setCell ⟨w.heap.size + 1, 5, none⟩ (.slice (some ⟨gp, 0, none⟩) l.length cp)) wr.heap.size s.g s.o s.p s.q := hty7.same _ _ hbxn (fun c t fr e => by cases e; decide)
          obtain ⟨_, _, _, _, _, a5, _, af⟩ := hsta.box.cells
          have g5 := af 5
          rw [hlen] at a5
          obtain ⟨b0, b1, b2⟩ := hbxn.cells
          obtain ⟨d0, d1, d2⟩ := hsb7.cells
          have hB7 : w.heap.size ≤ ((wr.alloc (.cells #[.pointer (some ⟨s.g, s.o, none⟩), .int .i64 (s.p : Int), .int .i64 (s.q : Int)] 284)).setCell ⟨w.heap.size + 1, 5, none⟩ (.slice (some ⟨gp, 0, none⟩) l.length cp)).heap.size := Nat.le_trans hB (Nat.le_trans hbl2.size hbel7.size)
          have hlay := lay_st w.heap.size (w.heap.size + 1) ov wv yv 0 1 _ w.heap.size _ s.g s.o s.p s.q op tx ks _ hst7 he7 hpq.1 (by show ways.length + 2 ≤ _; omega) (by show K.length ≤ _; omega) (by show l.length + ks.length ≤ _; omega) (by show outs.length + ks.length + 1 ≤ _; omega) hB7
          unfold sval at hlay
          have HINV := hide hinv
          have HAT : Hid (SpAt w.heap.size ((wr.alloc (.cells #[.pointer (some ⟨s.g, s.o, none⟩), .int .i64 (s.p : Int), .int .i64 (s.q : Int)] 284)).setCell ⟨w.heap.size + 1, 5, none⟩ (.slice (some ⟨gp, 0, none⟩) l.length cp)) l) := fun x hx => ((hat x (by simp [hx])).keep hbl2).keep hbel7
          have HBE : Hid (Below w.heap.size w ((wr.alloc (.cells #[.pointer (some ⟨s.g, s.o, none⟩), .int .i64 (s.p : Int), .int .i64 (s.q : Int)] 284)).setCell ⟨w.heap.size + 1, 5, none⟩ (.slice (some ⟨gp, 0, none⟩) l.length cp))) := hbel.trans (hbl2.trans hbel7)
          clear hst7 hsta hst hinv hbxn hsb7 he7 hal hty7 hbel7 hbl2 hrow hB7
          go_wp2_with (go_at_call 200; refine hlay.mono ?_; rintro e w8 ⟨rfl, D', ov8, wv8, yv8, pv8, hlD, hst8, hfr8⟩)
          obtain ⟨ch8, Gd8, hinv8, hw8⟩ := lay_inv (D := ⟨outs, ways, svs, K, l⟩) HINV.out hse hlD
          go_roundg (wS D'.opn)
          case measure => exact Nat.lt_of_lt_of_le hw8 hk
          case rel => exact ⟨D', ov8, wv8, yv8, pv8, ch8, Gd8, hst8, hinv8, layD_at hlD (fun x hx => (HAT.out x hx).keep hfr8.bel), HBE.out.trans hfr8.bel, Nat.le_refl _⟩
end Go.Proofs.YtfemboojdablhaaGreatDoor
namespace Go.Proofs.YtfemboojdablhaaGreatDoor
open Go.RowKit Go.Maps
theorem eway_edge {D : BData} {e0 : ExprD} {ch : Nat → List WayD} {Gd : List Edge} (h : GInv D e0 ch Gd) {x y : Nat} (hx : x < D.outs.length) : EWay ch x y ↔ (⟨x, .eps, y⟩ : Edge) ∈ Gd := by
  rw [h.done]
  constructor
  · rintro ⟨d, hd, hb, ht⟩
    exact ⟨hx, d, hd, ht, .inl ⟨hb, rfl⟩⟩
  · rintro ⟨_, d, hd, ht, hw⟩
    rcases hw with ⟨hb, _⟩ | ⟨j, t, _, _, e⟩
    · exact ⟨d, hd, hb, ht⟩
    · cases e
theorem edge_lt {D : BData} {e0 : ExprD} {ch : Nat → List WayD} {Gd : List Edge} (h : GInv D e0 ch Gd) {x y : Nat} {l : Lab} (he : (⟨x, l, y⟩ : Edge) ∈ Gd) : x < D.outs.length ∧ y < D.outs.length := h.under _ he
theorem epath_lt {D : BData} {e0 : ExprD} {ch : Nat → List WayD} {Gd : List Edge} (h : GInv D e0 ch Gd) {z y : Nat} (hp : EPath Gd z y) : z < D.outs.length → y < D.outs.length := by
  induction hp with
  | nil p => exact id
  | step p q r he _ ih => intro _; exact ih (edge_lt h he).2
theorem erch_epath {D : BData} {e0 : ExprD} {ch : Nat → List WayD} {Gd : List Edge} (h : GInv D e0 ch Gd) {z y : Nat} (hz : z < D.outs.length) : ERch ch z y ↔ EPath Gd z y := by
  constructor
  · intro hr
    induction hr with
    | nil => exact .nil z
    | step x y _ hy ih =>
      have hx := epath_lt h ih hz
      exact ih.trans (.step x y y ((eway_edge h hx).1 hy) (.nil y))
  · intro hp
    have key : ∀ {p q : Nat}, EPath Gd p q → ERch ch z p → ERch ch z q := by
      intro p q hp
      induction hp with
      | nil p => exact id
      | step p q r he _ ih => intro hr; exact ih (.step p q hr ((eway_edge h (edge_lt h he).1).2 he))
    exact key hp .nil
theorem sway_edge {D : BData} {e0 : ExprD} {ch : Nat → List WayD} {Gd : List Edge} (h : GInv D e0 ch Gd) {k z : Nat} (hk : k < D.outs.length) (c : UInt8) : SWay ch (D.K.map wordsOf) c.toNat k z ↔ ∃ st, (⟨k, .bytes st, z⟩ : Edge) ∈ Gd ∧ c ∈ st := by
  constructor
  · rintro ⟨d, hd, ⟨j, bs, hj, hbs, hin⟩, ht⟩
    rw [List.getElem?_map] at hbs
    cases e : D.K[j]? with
    | none => rw [e] at hbs; cases hbs
    | some t =>
      rw [e] at hbs
      cases hbs
      rw [wordsOf_in, decide_eq_true_eq] at hin
      exact ⟨t, (h.done _).2 ⟨hk, d, hd, ht, .inr ⟨j, t, hj, e, rfl⟩⟩, hin⟩
  · rintro ⟨st, he, hc⟩
    obtain ⟨_, d, hd, ht, hw⟩ := (h.done _).1 he
    rcases hw with ⟨_, e⟩ | ⟨j, t, hj, hK, e⟩
    · cases e
    · cases e
      refine ⟨d, hd, ⟨j, _, hj, by rw [List.getElem?_map, hK]; rfl, ?_⟩, ht⟩
      rw [wordsOf_in, decide_eq_true_eq]; exact hc
theorem plain_done {D : BData} {e0 : ExprD} {ch : Nat → List WayD} {Gd : List Edge} (h : GInv D e0 ch Gd) : Plain Gd := by
  intro e he
  obtain ⟨_, d, _, _, hw⟩ := (h.done e).1 he
  rcases hw with ⟨_, e1⟩ | ⟨j, t, _, _, e1⟩
  · exact .inl e1
  · exact .inr ⟨t, e1⟩
def Leads (Gd : List Edge) (s : List UInt8) (ws : List Nat) : Prop := ∀ y, inS ws y = true ↔ GPath Gd 0 y s
theorem gpath_lt {D : BData} {e0 : ExprD} {ch : Nat → List WayD} {Gd : List Edge} (h : GInv D e0 ch Gd) {z y : Nat} {s : List UInt8} (hp : GPath Gd z y s) : z < D.outs.length → y < D.outs.length := by
  induction hp with
  | nil p => exact id
  | step e q s t he _ _ ih => intro _; exact ih (h.under e he).2
theorem leads_start {D : BData} {e0 : ExprD} {ch : Nat → List WayD} {Gd : List Edge} (h : GInv D e0 ch Gd) {n : Nat} {ws : List Nat} (hr : Reached ch 0 (List.replicate n 0) ws) : Leads Gd [] ws := by
  intro y
  have h0 : 0 < D.outs.length := by have := h.two; omega
  rw [hr.all, inS_none, path_eps (plain_done h), erch_epath h h0]
  simp
theorem leads_step {D : BData} {e0 : ExprD} {ch : Nat → List WayD} {Gd : List Edge} (h : GInv D e0 ch Gd) {s : List UInt8} {c : UInt8} {ws1 ws2 ws' : List Nat} (hl : Leads Gd s ws1) (h2 : ∀ y, inS ws2 y = false) (hs : Stp ch ws2 (fun z => ∃ k, inS ws1 k = true ∧ SWay ch (D.K.map wordsOf) c.toNat k z) ws') : Leads Gd (s ++ [c]) ws' := by
  intro y
  have h0 : 0 < D.outs.length := by have := h.two; omega
  rw [hs.all, h2, path_last (plain_done h)]
  constructor
  · rintro (h | ⟨z, ⟨k, hk, hsw⟩, hr⟩)
    · cases h
    · have hkp := (hl k).1 hk
      have hkN := gpath_lt h hkp h0
      obtain ⟨st, he, hc⟩ := (sway_edge h hkN c).1 hsw
      exact ⟨k, z, st, hkp, he, hc, (erch_epath h (edge_lt h he).2).1 hr⟩
  · rintro ⟨x, r, st, hp, he, hc, hr⟩
    have hxN := gpath_lt h hp h0
    exact .inr ⟨r, ⟨x, (hl x).2 hp, (sway_edge h hxN c).2 ⟨st, he, hc⟩⟩, (erch_epath h (edge_lt h he).2).2 hr⟩
theorem wayL_at (l : List WayD) (i : Nat) (x : WayD) (h : l[i]? = some x) (j : Nat) (hj : j < 3) : (wayL l)[i * 3 + j]? = (way3 x)[j]? := by
  induction l generalizing i with
  | nil => cases h
  | cons a l ih =>
    have e : wayL (a :: l) = way3 a ++ wayL l := by simp [wayL]
    have e3 : (way3 a).length = 3 := rfl
    cases i with
    | zero =>
      simp at h
      subst h
      rw [e, List.getElem?_append_left (by rw [e3]; omega)]
      congr 1
      omega
    | succ i =>
      rw [e, List.getElem?_append_right (by rw [e3]; omega), e3, ← ih i (by simpa using h)]
      congr 1
      omega
theorem BSt.graph {B : Nat} {W : World} {b : Nat} {ov wv yv : Value} {st en : Int} {pv : Value} {bm : Nat} {D : BData} (h : BSt B W b ov wv yv st en pv bm D) (hN : 0 < D.outs.length) : ∃ g cap, GraphAt W.heap.size W b g cap wv D.outs D.ways := by
  obtain ⟨g, cap, rfl, _, hgl⟩ := h.out.form hN
  obtain ⟨c0, c1, _⟩ := h.box.cells
  refine ⟨g, cap, (Array.getElem?_eq_some_iff.1 h.box).1, hgl, c0, c1, fun i o ho => ?_, fun i x hx => ?_⟩
  · have hi := (List.getElem?_eq_some_iff.1 ho).1
    rw [h.out.cellAt i (by omega)]
    unfold i64s
    rw [List.getElem?_map, ho]
    rfl
  · have hi := (List.getElem?_eq_some_iff.1 hx).1
    obtain ⟨gw, cw, e, _, hwl⟩ := h.ways.form (by omega)
    have hr := h.ways
    rw [e] at hr
    have key : ∀ j, j < 3 → W.cell? ⟨gw, i * 3 + j, none⟩ = (way3 x)[j]? := fun j hj => by
      rw [hr.cellAt (i * 3 + j) (by omega), wayL_at D.ways i x hx j hj]
    exact ⟨gw, cw, hwl, e, key 0 (by decide), key 1 (by decide), key 2 (by decide)⟩
theorem BSt.bytes {B : Nat} {W : World} {b : Nat} {ov wv yv : Value} {st en : Int} {pv : Value} {bm : Nat} {D : BData} (h : BSt B W b ov wv yv st en pv bm D) : BytesAt W.heap.size W b (D.K.map wordsOf) := by
  intro j bs hj
  rw [List.getElem?_map] at hj
  cases e : D.K[j]? with
  | none => rw [e] at hj; cases hj
  | some t =>
    rw [e] at hj
    cases hj
    have hjl := (List.getElem?_eq_some_iff.1 e).1
    rw [← h.len] at hjl
    obtain ⟨gy, cy, ey, _, hyl⟩ := h.byt.form (by omega)
    obtain ⟨_, _, c2, _⟩ := h.box.cells
    have hr := h.byt
    rw [ey] at hr c2
    have hv : D.svs[j]? = some D.svs[j] := List.getElem?_eq_getElem hjl
    obtain ⟨t', ht', hs⟩ := h.sets j D.svs[j] hv
    rw [e] at ht'
    cases ht'
    refine ⟨gy, cy, D.svs[j], hyl, ?_, ?_, ⟨⟨hs.own.1, ?_⟩, hs.lim⟩, wordsOf_length t, fun g hg => ?_⟩
    · rw [List.length_map, ← h.len]; exact c2
    · rw [hr.cellAt j (by omega), hv]
    · rcases hs.own.2 with e2 | ⟨g, c, cur, e2, _, r⟩
      · exact .inl e2
      · exact .inr ⟨g, c, cur, e2, Nat.zero_le _, r⟩
    · obtain ⟨_, cur, hc⟩ := own_cells hs.own hg
      exact (Array.getElem?_eq_some_iff.1 hc).1
theorem zero_cells {B g cap n : Nat} : ∀ (m o : Nat) (W : World) (ws : List Nat), SetRow B W (.slice (some ⟨g, 0, none⟩) n cap) ws → ∃ ws', SetRow B (W.setCells g o (List.replicate m (.int .u64 0))) (.slice (some ⟨g, 0, none⟩) n cap) ws' ∧ ws'.length = ws.length ∧ (∀ i, ws'.getD i 0 = if o ≤ i ∧ i < o + m then 0 else ws.getD i 0) ∧ W.grownBy (W.setCells g o (List.replicate m (.int .u64 0))) (some g) := by
  intro m
  induction m with
  | zero => intro o W ws h; exact ⟨ws, h, rfl, fun i => by rw [if_neg (by omega)], ⟨rfl, rfl, rfl, Nat.le_refl _, fun _ _ _ => rfl⟩⟩
  | succ m ih =>
    intro o W ws h
    have h1 : SetRow B (W.setCell ⟨g, o, none⟩ (.int .u64 0)) (.slice (some ⟨g, 0, none⟩) n cap) (ws.set o 0) := by
      refine ⟨?_, fun x hx => ?_⟩
      · rw [List.length_set]
        have := own_set98 (i := o) h.own (.int .u64 ((0 : Nat) : Int))
        rw [u64s_set] at this
        exact this
      · rcases List.mem_or_eq_of_mem_set hx with hx | rfl
        · exact h.lim x hx
        · decide
    obtain ⟨ws', h2, h3, h4, h5⟩ := ih (o + 1) _ _ h1
    rw [List.replicate_succ]
    refine ⟨ws', h2, by rw [h3, List.length_set], fun i => ?_, grown_trans (set_grown W g o _) h5⟩
    rw [h4 i]
    by_cases hi : o + 1 ≤ i ∧ i < o + 1 + m
    · rw [if_pos hi, if_pos (by omega)]
    · rw [if_neg hi]
      by_cases e : o = i
      · subst e
        rw [if_pos (by omega), List.getD_eq_getElem?_getD]
        rcases Nat.lt_or_ge o ws.length with hl | hl
        · rw [List.getElem?_set_self hl]; rfl
        · rw [List.getElem?_eq_none (by rw [List.length_set]; exact hl)]; rfl
      · rw [if_neg (by omega), List.getD_eq_getElem?_getD, List.getElem?_set_ne e, ← List.getD_eq_getElem?_getD]
theorem GraphAt.wide {n₀ n₁ : Nat} {W : World} {b g cap : Nat} {wv : Value} {outs : List Int} {ways : List WayD} (h : GraphAt n₀ W b g cap wv outs ways) (hn : n₀ ≤ n₁) : GraphAt n₁ W b g cap wv outs ways := by
  refine ⟨Nat.lt_of_lt_of_le h.bl hn, Nat.lt_of_lt_of_le h.gl hn, h.b0, h.b1, h.out, fun i x hx => ?_⟩
  obtain ⟨gw, cw, h1, r⟩ := h.way i x hx
  exact ⟨gw, cw, Nat.lt_of_lt_of_le h1 hn, r⟩
theorem ExprAt.wide {B B' : Nat} {W : World} (hB : B ≤ B') {g o : Nat} {e : ExprD} (h : ExprAt B W g o e) : ExprAt B' W g o e := by
  induction h with
  | nil g o op st hg h0 h1 h2 hs => exact .nil g o op st (by omega) h0 h1 h2 hs
  | row g o op st gk ck ks hg h0 h1 h2 hs hck _ ih => exact .row g o op st gk ck ks (by omega) h0 h1 h2 hs hck ih
theorem KidsAt.wide {B B' : Nat} {W : World} {v : Value} {ks : List ExprD} (h : KidsAt B W v ks) (hB : B ≤ B') : KidsAt B' W v ks := by
  rcases h with h | ⟨gk, ck, h1, h2, h3⟩
  · exact .inl h
  · exact .inr ⟨gk, ck, h1, h2, fun i k hk => (h3 i k hk).wide hB⟩
theorem words_ge (N : Nat) : N ≤ words N * 64 := by unfold words; omega
theorem words_pos {N : Nat} (h : 0 < N) : 0 < words N := by unfold words; omega
set_option maxRecDepth 100000 in
set_option maxHeartbeats 400000 in
theorem newSet_big (n : Nat) (w : World) (hn : n ≤ 100000000) :
    Calls Tryz.prog 206 #[.int .i64 (n : Int)] w fun e w' => ∃ v, e = .returned v ∧ SetRow w.heap.size w' v (List.replicate (words n) 0) ∧ Below w.heap.size w w' := by
  obtain ⟨i0, hi, hz0, hz1, hz2⟩ := info_parts Tryz.info205
  obtain ⟨W, hmk, hown, hgr⟩ := run_makeSlice_full (P := Tryz.prog) (w := w) w.heap.size 246 205 i0 (.int .u64 0) 1 Tryz.underlying246' hi hz0 hz1 .i64 .i64 (words n) (by unfold words; omega) (by rw [hz2]; unfold words; omega) (by unfold words maxLen; omega) (Nat.le_refl _)
  have hN : ((n : Int) + 63) / 64 = ((words n : Nat) : Int) := by unfold words; omega
  have HOWN := hide hown
  have HGR := hide hgr
  obtain ⟨N, hNN⟩ : ∃ N, words n = N := ⟨_, rfl⟩
  rw [hNN] at hmk hN HOWN ⊢
  clear hown hgr hNN
  go_enter Tryz.func206, Tryz.ntmps206
  go_wp2
  go_ret
  refine ⟨_, rfl, ⟨?_, fun x hx => ?_⟩, ?_⟩
  · rw [List.length_replicate, ← made_zero]; exact HOWN.out
  · rw [List.mem_replicate] at hx; omega
  · have := HGR.out; exact ⟨this.os, this.tape, this.output, this.size, fun k hk => this.block k hk (fun e => by cases e)⟩
structure AutoAt (n₀ : Nat) (W : World) (b : Nat) (D : BData) (ch : Nat → List WayD) : Prop where
  gr : ∃ g cap wv, GraphAt n₀ W b g cap wv D.outs D.ways
  by_ : BytesAt n₀ W b (D.K.map wordsOf)
  c3 : W.cell? ⟨b, 3, none⟩ = some (.int .i64 0)
  c4 : W.cell? ⟨b, 4, none⟩ = some (.int .i64 1)
  tab : TabW W
  le : n₀ ≤ W.heap.size
  pos : 11 < n₀
  bl : b < n₀
theorem AutoAt.below {n₀ : Nat} {W W' : World} {b : Nat} {D : BData} {ch : Nat → List WayD} (h : AutoAt n₀ W b D ch) (hb : Below n₀ W W') : AutoAt n₀ W' b D ch := by
  obtain ⟨g, cap, wv, hg⟩ := h.gr
  exact ⟨⟨g, cap, wv, hg.below hb⟩, h.by_.below h.bl hb, (hb.cell (p := ⟨b, 3, none⟩) h.bl).trans h.c3, (hb.cell (p := ⟨b, 4, none⟩) h.bl).trans h.c4, h.tab.below h.pos hb, Nat.le_trans h.le hb.size, h.pos, h.bl⟩
set_option maxRecDepth 100000 in
set_option maxHeartbeats 1000000 in
theorem opening_any (n₀ b : Nat) (D : BData) (e0 : ExprD) (ch : Nat → List WayD) (Gd : List Edge) (w : World) (hA : AutoAt n₀ w b D ch) (hI : GInv D e0 ch Gd) (hN : D.outs.length ≤ 100000000) :
    Calls Tryz.prog 207 #[.pointer (some ⟨b, 0, none⟩)] w fun e w' => ∃ v ws, e = .returned v ∧ SetRow w.heap.size w' v ws ∧ ws.length = words D.outs.length ∧ Leads Gd [] ws ∧ Below w.heap.size w w' := by
  obtain ⟨g, cap, wv, hG⟩ := hA.gr
  have c0 := hG.b0
  have h0 : 0 < D.outs.length := by have := hI.two; omega
  have hcl : ClosedS ch (List.replicate (words D.outs.length) 0) := fun x hx => by rw [inS_none] at hx; cases hx
  go_enter Tryz.func207, Tryz.ntmps207
  go_wp2_with (go_at_call 206; refine (newSet_big D.outs.length _ hN).mono ?_; rintro e w1 ⟨v, rfl, hs1, hb1⟩)
  have hblt : b < w.heap.size := Nat.lt_of_lt_of_le hA.bl hA.le
  have c31 := (hb1.cell (p := ⟨b, 3, none⟩) hblt).trans hA.c3
  have hG1 : GraphAt w.heap.size w1 b g cap wv D.outs D.ways := (GraphAt.wide hG hA.le).below hb1
  obtain ⟨gv, cv, hv, hgv, hgl⟩ := hs1.form (by rw [List.length_replicate]; exact words_pos h0)
  rw [List.length_replicate] at hv
  subst hv
  have hs1d : SetRow w.heap.size w1.drew (.slice (some ⟨gv, 0, none⟩) (words D.outs.length) cv) (List.replicate (words D.outs.length) 0) := ⟨hs1.own.kept (grown_drewN w1 1) (.inr (fun e => by cases e)), hs1.lim⟩
  have hG1d : GraphAt w.heap.size w1.drew b g cap wv D.outs D.ways := hG1.below (Below.refl _ _).drew
  have hr0 := reach_any w.heap.size b g cap 0 wv (.slice (some ⟨gv, 0, none⟩) (words D.outs.length) cv) D.outs D.ways ch (List.replicate (words D.outs.length) 0) w1.drew hG1d hb1.size hI.chain (fun x hx d hd => (hI.way x hx d hd).1) hs1d (by rw [List.length_replicate]; exact words_ge _) (by omega) hcl h0
  rw [Int.natCast_zero] at hr0
  obtain ⟨R, hR⟩ : ∃ R, (fun (e : Ending) (W' : World) => e = Ending.returned (Value.tuple #[]) ∧ ∃ ws', SetRow w.heap.size W' (Value.slice (some ⟨gv, 0, none⟩) (words D.outs.length) cv) ws' ∧ Reached ch 0 (List.replicate (words D.outs.length) 0) ws' ∧ w1.drew.grownBy W' (Value.slice (some ⟨gv, 0, none⟩) (words D.outs.length) cv).ownBlock) = R := ⟨_, rfl⟩
  rw [hR] at hr0
  clear hG1d hs1d
  have HB1 := hide hb1
  clear hG1 hG hs1 c0 hA hb1
  go_wp2
  go_region_with (go_at_call 240; refine hr0.mono ?_; intro e w2 hR2; rw [← hR] at hR2; obtain ⟨rfl, hR3⟩ := hR2)
  all_goals go_wp2
  all_goals go_ret
  all_goals
    obtain ⟨ws, hs2, hre, hg2⟩ := hR3
    refine ⟨_, ws, rfl, hs2, by rw [hre.len]; simp, leads_start hI hre, ?_⟩
    exact HB1.out.trans ((Below.refl _ _).drew.trans (below_of_grown hg2 HB1.out.size (fun r e => by cases e; exact hgv)))
end Go.Proofs.YtfemboojdablhaaGreatDoor
