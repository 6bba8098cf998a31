/- The program's build. -/
import Derived.Test.YtjbdoeoimodhkaaGreatDoorAGraphB
import Derived.Deep.LoopGhost
namespace Go.Proofs.YtjbdoeoimodhkaaGreatDoor
open Go.RowKit Go.Maps

theorem one_edge (e : ExprD) (t : List UInt8) : GPath [⟨0, .ex e, 1⟩] 0 1 t ↔ InE e t := by
  constructor
  · intro h
    have hone : ∀ {p q : Nat} {u : List UInt8}, GPath [⟨0, .ex e, 1⟩] p q u → p = 1 → u = [] := by
      intro p q u h
      cases h with
      | nil => intro _; rfl
      | step ed q s t hed hs h =>
        rw [List.mem_singleton] at hed
        subst hed
        intro h; cases h
    have htwo : ∀ {p q : Nat} {u : List UInt8}, GPath [⟨0, .ex e, 1⟩] p q u → p = 0 → q = 1 → InE e u := by
      intro p q u h
      cases h with
      | nil => intro h1 h2; omega
      | step ed q s t hed hs h =>
        rw [List.mem_singleton] at hed
        subst hed
        intro _ _
        have := hone h rfl
        subst this
        rw [List.append_nil]; exact hs
    exact htwo h rfl rfl
  · intro h
    exact GPath.one (e := ⟨0, .ex e, 1⟩) (by simp) h
theorem start_inv (e : ExprD) (g o : Nat) : GInv ⟨[-1, -1], [], [], [], [⟨g, o, e, 0, 1⟩]⟩ e (fun _ => []) [] := by
  refine ⟨Nat.le_refl _, fun k hk => ?_, fun k hk d hd => (by cases hd), fun ed => ?_, fun s hs => ?_, fun t => one_edge e t, ?_, ?_, ?_⟩
  · have hk' : k < 2 := hk
    refine ⟨-1, ?_, .done⟩
    rcases Nat.lt_or_ge k 1 with h | h
    · have : k = 0 := by omega
      subst this; rfl
    · have : k = 1 := by omega
      subst this; rfl
  · constructor
    · intro h; cases h
    · rintro ⟨_, d, hd, _⟩; cases hd
  · rw [List.mem_singleton] at hs
    subst hs
    exact ⟨show 0 < 2 by decide, show 1 < 2 by decide⟩
  · show 2 + wS [_] ≤ _; rw [wS_one]; exact Nat.le_refl _
  · show 0 + 2 * wS [_] ≤ _; rw [wS_one]; show 0 + 2 * wt e ≤ _; omega
  · show 0 + wS [_] ≤ _; rw [wS_one]; show 0 + wt e ≤ _; omega
theorem BBox.set3 {W : World} {b : Nat} {ov wv yv : Value} {st en : Int} {pv kv : Value} (h : BBox W b ov wv yv st en pv kv) (x : Int) : BBox (W.setCell ⟨b, 3, none⟩ (.int .i64 x)) b ov wv yv x en pv kv := by
  obtain ⟨hlt, hk⟩ := Array.getElem?_eq_some_iff.1 h
  show (W.heap.modify b _)[b]? = _
  rw [Array.getElem?_eq_getElem (by rw [Array.size_modify]; exact hlt), Array.getElem_modify_self, hk]
  rfl
theorem BBox.set4 {W : World} {b : Nat} {ov wv yv : Value} {st en : Int} {pv kv : Value} (h : BBox W b ov wv yv st en pv kv) (x : Int) : BBox (W.setCell ⟨b, 4, none⟩ (.int .i64 x)) b ov wv yv st x pv kv := by
  obtain ⟨hlt, hk⟩ := Array.getElem?_eq_some_iff.1 h
  show (W.heap.modify b _)[b]? = _
  rw [Array.getElem?_eq_getElem (by rw [Array.size_modify]; exact hlt), Array.getElem_modify_self, hk]
  rfl
/-- A store into the builder's own box. -/
theorem set_ty {B : Nat} {W : World} {b i : Nat} {ov wv yv : Value} {st en : Int} {pv : Value} {bm : Nat} {D : BData} (h : BSt B W b ov wv yv st en pv bm D) (u : Value) (hB : B ≤ W.heap.size) : TyG [191] W (W.setCell ⟨b, i, none⟩ u) ∧ Below B W (W.setCell ⟨b, i, none⟩ u) := by
  have hs := set_grown W b i u
  refine grown_ty (ex := [some b]) ⟨hs.os, hs.tape, hs.output, hs.size, fun k hk hne => hs.block k hk (fun e => hne (by simp [e]))⟩ (fun g hg => ?_) hB
  simp only [List.mem_singleton, Option.some.injEq] at hg
  subst hg
  exact ⟨h.bB, _, 191, by simp, h.box⟩
theorem BSt.box' {B : Nat} {W W' : World} {b : Nat} {ov wv yv : Value} {st en st' en' : Int} {pv : Value} {bm : Nat} {D : BData} (h : BSt B W b ov wv yv st en pv bm D) (hg : TyG [191] W W') (hb : BBox W' b ov wv yv st' en' pv (.map (some bm))) : BSt B W' b ov wv yv st' en' pv bm D := by
  refine ⟨hb, h.bB, hg.row h.out (by decide), hg.row h.ways (by decide), hg.row h.byt (by decide), h.len, fun i v hv => ?_, hg.row h.opn (by decide), h.mB, hg.kn h.kn⟩
  obtain ⟨t, ht, hs⟩ := h.sets i v hv
  exact ⟨t, ht, hg.set hs (by decide)⟩
theorem spanL_len (l : List SpanD) : (spanL l).length = l.length * 3 := by
  induction l with
  | nil => rfl
  | cons s l ih => simp only [spanL, List.flatMap_cons, List.length_append] at ih ⊢; rw [ih]; simp [span3]; omega
theorem spanL_at (l : List SpanD) (s : SpanD) (j : Nat) (hj : j < 3) : (spanL (l ++ [s]))[l.length * 3 + j]? = (span3 s)[j]? := by
  have e : spanL (l ++ [s]) = spanL l ++ span3 s := by simp [spanL]
  rw [e, List.getElem?_append_right (by rw [spanL_len]; omega), spanL_len]
  congr 1
  omega
theorem last_cells {B : Nat} {W : World} {gp cp : Nat} {l : List SpanD} {s : SpanD} (h : W.ownsRow B 195 3 (.slice (some ⟨gp, 0, none⟩) (l ++ [s]).length cp) (l ++ [s]).length (spanL (l ++ [s]))) : W.cell? ⟨gp, l.length * 3, none⟩ = some (.pointer (some ⟨s.g, s.o, none⟩)) ∧ W.cell? ⟨gp, l.length * 3 + 1, none⟩ = some (.int .i64 (s.p : Int)) ∧ W.cell? ⟨gp, l.length * 3 + 2, none⟩ = some (.int .i64 (s.q : Int)) := by
  have hl : (l ++ [s]).length = l.length + 1 := by simp
  have key : ∀ j, j < 3 → W.cell? ⟨gp, l.length * 3 + j, none⟩ = (span3 s)[j]? := by
    intro j hj
    have h1 := h.cellAt (l.length * 3 + j) (by rw [hl]; omega)
    rw [h1, spanL_at l s j hj]
  exact ⟨key 0 (by decide), key 1 (by decide), key 2 (by decide)⟩
theorem pop_row {B : Nat} {W : World} {gp cp : Nat} {l : List SpanD} {s : SpanD} (h : W.ownsRow B 195 3 (.slice (some ⟨gp, 0, none⟩) (l ++ [s]).length cp) (l ++ [s]).length (spanL (l ++ [s]))) : W.ownsRow B 195 3 (.slice (some ⟨gp, 0, none⟩) l.length cp) l.length (spanL l) := by
  refine ⟨spanL_len l, ?_⟩
  rcases h.2 with ⟨e, _⟩ | ⟨g', cap', cur, e, hbb, hg2, h1, h2, h3, h4⟩
  · cases e
  · have hl : (l ++ [s]).length = l.length + 1 := by simp
    simp only [Value.slice.injEq, Option.some.injEq, Addr.mk.injEq] at e
    obtain ⟨⟨e1, _⟩, _, e3⟩ := e
    subst e1
    subst e3
    refine .inr ⟨gp, cp, cur, rfl, hbb, hg2, by omega, h2, h3, ?_⟩
    have e2 : spanL (l ++ [s]) = spanL l ++ span3 s := by simp [spanL]
    rw [e2] at h4
    have h5 := congrArg (List.take (l.length * 3)) h4
    rw [List.take_take, List.take_left' (spanL_len l), Nat.min_eq_left (by omega)] at h5
    exact h5
/-- The last of the list is taken off. -/
theorem pop_st {B : Nat} {W : World} {b : Nat} {ov wv yv : Value} {st en : Int} {bm gp cp : Nat} {outs : List Int} {ways : List WayD} {svs : List Value} {K : List (List UInt8)} {l : List SpanD} {s : SpanD} (h : BSt B W b ov wv yv st en (.slice (some ⟨gp, 0, none⟩) (l ++ [s]).length cp) bm ⟨outs, ways, svs, K, l ++ [s]⟩) (hB : B ≤ W.heap.size) :
    BSt B (W.setCell ⟨b, 5, none⟩ (.slice (some ⟨gp, 0, none⟩) l.length cp)) b ov wv yv st en (.slice (some ⟨gp, 0, none⟩) l.length cp) bm ⟨outs, ways, svs, K, l⟩ ∧ TyG [191] W (W.setCell ⟨b, 5, none⟩ (.slice (some ⟨gp, 0, none⟩) l.length cp)) ∧ Below B W (W.setCell ⟨b, 5, none⟩ (.slice (some ⟨gp, 0, none⟩) l.length cp)) := by
  have hg := set_ty (i := 5) h (.slice (some ⟨gp, 0, none⟩) l.length cp) hB
  refine ⟨⟨h.box.set5 _, h.bB, hg.1.row h.out (by decide), hg.1.row h.ways (by decide), hg.1.row h.byt (by decide), h.len, fun i v hv => ?_, ?_, h.mB, hg.1.kn h.kn⟩, hg⟩
  · obtain ⟨t, ht, hs⟩ := h.sets i v hv
    exact ⟨t, ht, hg.1.set hs (by decide)⟩
  · exact hg.1.row (pop_row h.opn) (by decide)
theorem layD_at {B : Nat} {W : World} {D D' : BData} {op : Int} {tx : List UInt8} {ks : List ExprD} {p q : Nat} (h : LayD B W D op tx ks p q D') (hat : SpAt B W D.opn) : SpAt B W D'.opn := by
  have app : ∀ sp, SpAt B W sp → SpAt B W (D.opn ++ sp) := fun sp h2 s hs => by
    rcases List.mem_append.1 hs with hs | hs
    · exact hat s hs
    · exact h2 s hs
  cases h with
  | free => exact hat
  | none => exact hat
  | byte => exact hat
  | row sp _ _ _ h2 => exact app sp h2
  | choice sp _ _ h2 => exact app sp h2
  | again _ sp _ _ _ h2 => exact app sp h2
set_option maxRecDepth 100000 in
set_option maxHeartbeats 4000000 in
theorem build_any (g o : Nat) (e0 : ExprD) (w : World) (he : ExprAt w.heap.size w g o e0) (hwt : wt e0 ≤ 100000000) :
    Calls Tryz.prog 90 #[.pointer (some ⟨g, o, none⟩)] w fun e w' => ∃ (b : Nat) (D : BData) (ov wv yv pv : Value) (bm : Nat) (ch : Nat → List WayD) (Gd : List Edge), e = .returned (.pointer (some ⟨b, 0, none⟩)) ∧ BSt w.heap.size w' b ov wv yv 0 1 pv bm D ∧ GInv D e0 ch Gd ∧ D.opn = [] ∧ Below w.heap.size w w' := by
  have hmm := @run_makeMap Tryz.prog
  go_enter Tryz.func90, Tryz.ntmps90
  go_wp2
  have hbx : BBox ((w.alloc (.map #[] 0)).alloc (.cells #[.slice none 0 0, .slice none 0 0, .slice none 0 0, .int .i64 0, .int .i64 0, .slice none 0 0, .map (some w.heap.size)] 191)) (w.heap.size + 1) (.slice none 0 0) (.slice none 0 0) (.slice none 0 0) 0 0 (.slice none 0 0) (.map (some w.heap.size)) := by
    have := World.alloc_heap_new (w.alloc (.map #[] 0)) (.cells #[.slice none 0 0, .slice none 0 0, .slice none 0 0, .int .i64 0, .int .i64 0, .slice none 0 0, .map (some w.heap.size)] 191)
    rw [World.size_alloc] at this
    exact this
  have hmp : KnownAre ((w.alloc (.map #[] 0)).alloc (.cells #[.slice none 0 0, .slice none 0 0, .slice none 0 0, .int .i64 0, .int .i64 0, .slice none 0 0, .map (some w.heap.size)] 191)) w.heap.size [] := by
    refine KnownAre.same (W := w.alloc (.map #[] 0)) ⟨_, isMap_empty, World.ownsMap_made .., fun x => .inl rfl⟩ (Below.heap_alloc _ _ _ (by simp))
  have hbl : Below w.heap.size w ((w.alloc (.map #[] 0)).alloc (.cells #[.slice none 0 0, .slice none 0 0, .slice none 0 0, .int .i64 0, .int .i64 0, .slice none 0 0, .map (some w.heap.size)] 191)) := ((Below.refl _ _).alloc (Nat.le_refl _) _).alloc (by simp) _
  obtain ⟨W0, hW0⟩ : ∃ W0, (w.alloc (.map #[] 0)).alloc (.cells #[.slice none 0 0, .slice none 0 0, .slice none 0 0, .int .i64 0, .int .i64 0, .slice none 0 0, .map (some w.heap.size)] 191) = W0 := ⟨_, rfl⟩
  rw [hW0] at hbx hmp hbl ⊢
  have nl : ∀ t sz, W0.ownsRow w.heap.size t sz (.slice none 0 0) 0 [] := fun t sz => ⟨by simp, .inl ⟨rfl, rfl⟩⟩
  have hst0 : BSt w.heap.size W0 (w.heap.size + 1) (.slice none 0 0) (.slice none 0 0) (.slice none 0 0) 0 0 (.slice none 0 0) w.heap.size ⟨[], [], [], [], []⟩ := ⟨hbx, by omega, nl _ _, nl _ _, nl _ _, rfl, fun i v hv => (by cases hv), nl _ _, Nat.le_refl _, hmp⟩
  have hB0 : w.heap.size ≤ W0.heap.size := hbl.size
  have hgr : Calls Tryz.prog 110 #[.pointer (some ⟨w.heap.size + 1, 0, none⟩)] W0.drew fun e w' => e = .returned (.int .i64 0) ∧ ∃ ov', BSt w.heap.size w' (w.heap.size + 1) ov' (.slice none 0 0) (.slice none 0 0) 0 0 (.slice none 0 0) w.heap.size ⟨[-1], [], [], [], []⟩ ∧ FrB w.heap.size (.slice none 0 0) (.slice none 0 0) W0.drew w' := (grow_st w.heap.size (w.heap.size + 1) _ _ _ 0 0 _ w.heap.size _ W0.drew (hst0.all (ty_drew _)) (by decide) hB0).mono (fun e w' h => ⟨h.1.trans (by simp), h.2⟩)
  have HGR2 : Hid (∀ (w2 : World) (ov2 : Value), BSt w.heap.size w2 (w.heap.size + 1) ov2 (.slice none 0 0) (.slice none 0 0) 0 0 (.slice none 0 0) w.heap.size ⟨[-1], [], [], [], []⟩ → w.heap.size ≤ w2.heap.size → Calls Tryz.prog 110 #[.pointer (some ⟨w.heap.size + 1, 0, none⟩)] w2 fun e w' => e = .returned (.int .i64 1) ∧ ∃ ov', BSt w.heap.size w' (w.heap.size + 1) ov' (.slice none 0 0) (.slice none 0 0) 0 0 (.slice none 0 0) w.heap.size ⟨[-1, -1], [], [], [], []⟩ ∧ FrB w.heap.size (.slice none 0 0) (.slice none 0 0) w2 w') := fun w2 ov2 h hB => (grow_st w.heap.size (w.heap.size + 1) _ _ _ 0 0 _ w.heap.size _ w2 h (by decide) hB).mono (fun e w' h => ⟨h.1.trans (by simp), h.2⟩)
  clear hW0 hmm hbx hmp nl hst0
  refine (fun (KEY : ∀ (ov3 : Value) (w3 : World), (BSt w.heap.size w3 (w.heap.size + 1) ov3 (.slice none 0 0) (.slice none 0 0) 0 0 (.slice none 0 0) w.heap.size ⟨[-1, -1], [], [], [], []⟩ ∧ Below w.heap.size w w3) → (?G : Value → World → Prop) ov3 w3) => ?main) ?key
  case main =>
    go_region_with (first
      | (go_at_call 110; refine hgr.mono ?_; rintro e w2 ⟨rfl, ov2, hst2, hfr2⟩; have hgr2 := (unhide HGR2) w2 ov2 hst2 (Nat.le_trans hB0 hfr2.bel.size))
      | (go_at_call 110; refine hgr2.mono ?_; rintro e w3 ⟨rfl, ov3, hst3, hfr3⟩; obtain ⟨_, _, _, c3, c4, _, _, cf⟩ := hst3.box.cells; have f3 := cf 3; have f4 := cf 4))
    all_goals exact KEY ov3 w3 ⟨hst3, hbl.trans ((Below.refl _ _).drew.trans (hfr2.bel.trans hfr3.bel))⟩
  case key =>
    rintro ov3 w3 ⟨hst3, hbel3⟩
    have hB3 : w.heap.size ≤ w3.heap.size := hbel3.size
    have ht1 := set_ty (i := 3) hst3 (.int .i64 0) hB3
    have hst4 := hst3.box' ht1.1 (hst3.box.set3 0)
    have ht2 := set_ty (i := 4) hst4 (.int .i64 1) (Nat.le_trans hB3 ht1.1.size)
    have hst5 := hst4.box' ht2.1 (hst4.box.set4 1)
    have hbel5 := hbel3.trans (ht1.2.trans ht2.2)
    clear hgr HGR2 ht1 ht2 hst4 hst3 hbel3 hB3
    obtain ⟨W5, hW5⟩ : ∃ W5, (w3.setCell ⟨w.heap.size + 1, 3, none⟩ (.int .i64 0)).setCell ⟨w.heap.size + 1, 4, none⟩ (.int .i64 1) = W5 := ⟨_, rfl⟩
    rw [hW5] at hst5 hbel5 ⊢
    clear hW5
    obtain ⟨_, _, _, c3, c4, _, _, _⟩ := hst5.box.cells
    have hlv := leave_st w.heap.size (w.heap.size + 1) ov3 _ _ 0 1 _ w.heap.size _ ⟨g, o, e0, 0, 1⟩ W5.drew (hst5.all (ty_drew _)) (by decide) hbel5.size
    have HBEL := hide hbel5
    clear hst5 hbel5
    go_wp2
    refine (fun (KEY : ∀ (pv6 : Value) (w6 : World), (BSt w.heap.size w6 (w.heap.size + 1) ov3 (.slice none 0 0) (.slice none 0 0) 0 1 pv6 w.heap.size ⟨[-1, -1], [], [], [], [⟨g, o, e0, 0, 1⟩]⟩ ∧ Below w.heap.size w w6) → (?G5 : Value → World → Prop) pv6 w6) => ?main5) ?key5
    case main5 =>
      go_region_with (go_at_call 111; refine hlv.mono ?_; rintro e w6 ⟨rfl, pv6, hst6, hfr6⟩)
      all_goals exact KEY pv6 w6 ⟨hst6, HBEL.out.trans ((Below.refl _ _).drew.trans hfr6.bel)⟩
    case key5 =>
      rintro pv6 w6 ⟨hst6, hbel6⟩
      clear hlv HBEL c3 c4
      go_wp2
      go_loopg [45] (wS [(⟨g, o, e0, 0, 1⟩ : SpanD)]) (fun k _ wr => ∃ (D : BData) (ov wv yv pv : Value) (ch : Nat → List WayD) (Gd : List Edge), BSt w.heap.size wr (w.heap.size + 1) ov wv yv 0 1 pv w.heap.size D ∧ GInv D e0 ch Gd ∧ SpAt w.heap.size wr D.opn ∧ Below w.heap.size w wr ∧ wS D.opn ≤ k)
      case atStart => exact ⟨_, ov3, _, _, pv6, _, _, hst6, start_inv e0 g o, fun s hs => (by rw [List.mem_singleton] at hs; subst hs; exact he.keep hbel6), hbel6, Nat.le_refl _⟩
      case round =>
        obtain ⟨D, ov, wv, yv, pv, ch, Gd, hst, hinv, hat, hbel, hk⟩ := hrel
        have hB : w.heap.size ≤ wr.heap.size := hbel.size
        rcases List.eq_nil_or_concat D.opn with hnil | ⟨l, s, hls⟩
        · obtain ⟨_, _, _, _, _, c5, _, _⟩ := hst.box.cells
          obtain ⟨pa, pc, rfl⟩ : ∃ a c, pv = .slice a 0 c := by
            rcases hst.opn.2 with ⟨e, _⟩ | ⟨gp, cp, cur, e, _⟩
            · exact ⟨_, _, e⟩
            · rw [hnil] at e; exact ⟨_, _, e⟩
          have H1 := hide hst
          have H2 := hide hinv
          clear hst hinv
          go_wp2
          go_ret
          exact ⟨_, D, ov, wv, yv, _, _, ch, Gd, rfl, H1.out, H2.out, hnil, hbel⟩
        · rw [List.concat_eq_append] at hls
          obtain ⟨outs, ways, svs, K, opn⟩ := D
          dsimp only at hls
          subst hls
          have hlen : (l ++ [s]).length = l.length + 1 := by simp
          have hrow : wr.ownsRow w.heap.size 195 3 pv (l ++ [s]).length (spanL (l ++ [s])) := hst.opn
          obtain ⟨gp, cp, rfl, hgpB, _⟩ := hrow.form (by simp)
          obtain ⟨q0, q1, q2⟩ := last_cells hrow
          have hcp : l.length + 1 ≤ cp := by
            rcases hrow.2 with ⟨e, _⟩ | ⟨g', cap', cur, e, _, _, h, _⟩
            · cases e
            · simp only [Value.slice.injEq] at e; rw [e.2.2]; omega
          obtain ⟨_, _, _, _, _, c5, _, cf⟩ := hst.box.cells
          have f5 := cf 5
          rw [hlen] at c5
          have sN : outs.length + wS (l ++ [s]) ≤ 2 + wt e0 := hinv.sN
          have sW : ways.length + 2 * wS (l ++ [s]) ≤ 2 * wt e0 := hinv.sW
          have sK : K.length + wS (l ++ [s]) ≤ wt e0 := hinv.sK
          have hll := len_wS l
          obtain ⟨op, tx, ks, hse⟩ : ∃ op tx ks, s.e = .mk op tx ks := by
            cases he' : s.e with
            | mk a b c => exact ⟨a, b, c, rfl⟩
          have hwse : wt s.e = wtL ks + 1 := by rw [hse, wt]
          have hwl := wtL_eq ks
          rw [wS_append, wS_one, hwse] at sN sW sK
          have hpq : s.p < outs.length ∧ s.q < outs.length := hinv.opn s (by simp)
          have hsub : ((l.length + 1 : Nat) : Int) - 1 = (l.length : Int) := by omega
          have hlb : l.length ≤ 100000000 := by omega
          -- the world in which lay is called
          have hal : TyG [] wr (wr.alloc (.cells #[.pointer (some ⟨s.g, s.o, none⟩), .int .i64 (s.p : Int), .int .i64 (s.q : Int)] 195)) := ty_alloc _ _
          have hbl2 : Below w.heap.size wr (wr.alloc (.cells #[.pointer (some ⟨s.g, s.o, none⟩), .int .i64 (s.p : Int), .int .i64 (s.q : Int)] 195)) := (Below.refl _ _).alloc hB _
          have hsta := hst.all hal
          have hbxn : SBox (wr.alloc (.cells #[.pointer (some ⟨s.g, s.o, none⟩), .int .i64 (s.p : Int), .int .i64 (s.q : Int)] 195)) wr.heap.size s.g s.o s.p s.q := World.alloc_heap_new wr _
          obtain ⟨hst7, hty7, hbel7⟩ := pop_st (l := l) (s := s) (gp := gp) (cp := cp) hsta (Nat.le_trans hB hbl2.size)
          have he7 : ExprAt w.heap.size ((wr.alloc (.cells #[.pointer (some ⟨s.g, s.o, none⟩), .int .i64 (s.p : Int), .int .i64 (s.q : Int)] 195)).setCell ⟨w.heap.size + 1, 5, none⟩ (.slice (some ⟨gp, 0, none⟩) l.length cp)) s.g s.o (.mk op tx ks) := by
            rw [← hse]
            exact ((hat s (by simp)).keep hbl2).keep hbel7
          have hsb7 : SBox ((wr.alloc (.cells #[.pointer (some ⟨s.g, s.o, none⟩), .int .i64 (s.p : Int), .int .i64 (s.q : Int)] 195)).setCell ⟨w.heap.size + 1, 5, none⟩ (.slice (some ⟨gp, 0, none⟩) l.length cp)) wr.heap.size s.g s.o s.p s.q := hty7.same _ _ hbxn (fun c t fr e => by cases e; decide)
          obtain ⟨_, _, _, _, _, a5, _, af⟩ := hsta.box.cells
          have g5 := af 5
          rw [hlen] at a5
          obtain ⟨b0, b1, b2⟩ := hbxn.cells
          obtain ⟨d0, d1, d2⟩ := hsb7.cells
          have hB7 : w.heap.size ≤ ((wr.alloc (.cells #[.pointer (some ⟨s.g, s.o, none⟩), .int .i64 (s.p : Int), .int .i64 (s.q : Int)] 195)).setCell ⟨w.heap.size + 1, 5, none⟩ (.slice (some ⟨gp, 0, none⟩) l.length cp)).heap.size := Nat.le_trans hB (Nat.le_trans hbl2.size hbel7.size)
          have hlay := lay_st w.heap.size (w.heap.size + 1) ov wv yv 0 1 _ w.heap.size _ s.g s.o s.p s.q op tx ks _ hst7 he7 hpq.1 (by show ways.length + 2 ≤ _; omega) (by show K.length ≤ _; omega) (by show l.length + ks.length ≤ _; omega) (by show outs.length + ks.length + 1 ≤ _; omega) hB7
          unfold sval at hlay
          have HINV := hide hinv
          have HAT : Hid (SpAt w.heap.size ((wr.alloc (.cells #[.pointer (some ⟨s.g, s.o, none⟩), .int .i64 (s.p : Int), .int .i64 (s.q : Int)] 195)).setCell ⟨w.heap.size + 1, 5, none⟩ (.slice (some ⟨gp, 0, none⟩) l.length cp)) l) := fun x hx => ((hat x (by simp [hx])).keep hbl2).keep hbel7
          have HBE : Hid (Below w.heap.size w ((wr.alloc (.cells #[.pointer (some ⟨s.g, s.o, none⟩), .int .i64 (s.p : Int), .int .i64 (s.q : Int)] 195)).setCell ⟨w.heap.size + 1, 5, none⟩ (.slice (some ⟨gp, 0, none⟩) l.length cp))) := hbel.trans (hbl2.trans hbel7)
          clear hst7 hsta hst hinv hbxn hsb7 he7 hal hty7 hbel7 hbl2 hrow hB7
          go_wp2_with (go_at_call 112; refine hlay.mono ?_; rintro e w8 ⟨rfl, D', ov8, wv8, yv8, pv8, hlD, hst8, hfr8⟩)
          obtain ⟨ch8, Gd8, hinv8, hw8⟩ := lay_inv (D := ⟨outs, ways, svs, K, l⟩) HINV.out hse hlD
          go_roundg (wS D'.opn)
          case measure => exact Nat.lt_of_lt_of_le hw8 hk
          case rel => exact ⟨D', ov8, wv8, yv8, pv8, ch8, Gd8, hst8, hinv8, layD_at hlD (fun x hx => (HAT.out x hx).keep hfr8.bel), HBE.out.trans hfr8.bel, Nat.le_refl _⟩
end Go.Proofs.YtjbdoeoimodhkaaGreatDoor
