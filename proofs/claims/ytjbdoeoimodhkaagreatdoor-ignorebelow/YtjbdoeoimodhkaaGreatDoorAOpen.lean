/- The program's Match. -/
import Derived.Test.YtjbdoeoimodhkaaGreatDoorABuild
import Derived.Lib.SliceRun
namespace Go.Proofs.YtjbdoeoimodhkaaGreatDoor
open Go.RowKit Go.Maps

/-! ### The sets of states are where a text leads -/
theorem eway_edge {D : BData} {e0 : ExprD} {ch : Nat → List WayD} {Gd : List Edge} (h : GInv D e0 ch Gd) {x y : Nat} (hx : x < D.outs.length) : EWay ch x y ↔ (⟨x, .eps, y⟩ : Edge) ∈ Gd := by
  rw [h.done]
  constructor
  · rintro ⟨d, hd, hb, ht⟩
    exact ⟨hx, d, hd, ht, .inl ⟨hb, rfl⟩⟩
  · rintro ⟨_, d, hd, ht, hw⟩
    rcases hw with ⟨hb, _⟩ | ⟨j, t, _, _, e⟩
    · exact ⟨d, hd, hb, ht⟩
    · cases e
theorem edge_lt {D : BData} {e0 : ExprD} {ch : Nat → List WayD} {Gd : List Edge} (h : GInv D e0 ch Gd) {x y : Nat} {l : Lab} (he : (⟨x, l, y⟩ : Edge) ∈ Gd) : x < D.outs.length ∧ y < D.outs.length := h.under _ he
theorem epath_lt {D : BData} {e0 : ExprD} {ch : Nat → List WayD} {Gd : List Edge} (h : GInv D e0 ch Gd) {z y : Nat} (hp : EPath Gd z y) : z < D.outs.length → y < D.outs.length := by
  induction hp with
  | nil p => exact id
  | step p q r he _ ih => intro _; exact ih (edge_lt h he).2
theorem erch_epath {D : BData} {e0 : ExprD} {ch : Nat → List WayD} {Gd : List Edge} (h : GInv D e0 ch Gd) {z y : Nat} (hz : z < D.outs.length) : ERch ch z y ↔ EPath Gd z y := by
  constructor
  · intro hr
    induction hr with
    | nil => exact .nil z
    | step x y _ hy ih =>
      have hx := epath_lt h ih hz
      exact ih.trans (.step x y y ((eway_edge h hx).1 hy) (.nil y))
  · intro hp
    have key : ∀ {p q : Nat}, EPath Gd p q → ERch ch z p → ERch ch z q := by
      intro p q hp
      induction hp with
      | nil p => exact id
      | step p q r he _ ih => intro hr; exact ih (.step p q hr ((eway_edge h (edge_lt h he).1).2 he))
    exact key hp .nil
theorem sway_edge {D : BData} {e0 : ExprD} {ch : Nat → List WayD} {Gd : List Edge} (h : GInv D e0 ch Gd) {k z : Nat} (hk : k < D.outs.length) (c : UInt8) : SWay ch (D.K.map wordsOf) c.toNat k z ↔ ∃ st, (⟨k, .bytes st, z⟩ : Edge) ∈ Gd ∧ c ∈ st := by
  constructor
  · rintro ⟨d, hd, ⟨j, bs, hj, hbs, hin⟩, ht⟩
    rw [List.getElem?_map] at hbs
    cases e : D.K[j]? with
    | none => rw [e] at hbs; cases hbs
    | some t =>
      rw [e] at hbs
      cases hbs
      rw [wordsOf_in, decide_eq_true_eq] at hin
      exact ⟨t, (h.done _).2 ⟨hk, d, hd, ht, .inr ⟨j, t, hj, e, rfl⟩⟩, hin⟩
  · rintro ⟨st, he, hc⟩
    obtain ⟨_, d, hd, ht, hw⟩ := (h.done _).1 he
    rcases hw with ⟨_, e⟩ | ⟨j, t, hj, hK, e⟩
    · cases e
    · cases e
      refine ⟨d, hd, ⟨j, _, hj, by rw [List.getElem?_map, hK]; rfl, ?_⟩, ht⟩
      rw [wordsOf_in, decide_eq_true_eq]; exact hc
theorem plain_done {D : BData} {e0 : ExprD} {ch : Nat → List WayD} {Gd : List Edge} (h : GInv D e0 ch Gd) : Plain Gd := by
  intro e he
  obtain ⟨_, d, _, _, hw⟩ := (h.done e).1 he
  rcases hw with ⟨_, e1⟩ | ⟨j, t, _, _, e1⟩
  · exact .inl e1
  · exact .inr ⟨t, e1⟩
/-- A set is where a text leads. -/
def Leads (Gd : List Edge) (s : List UInt8) (ws : List Nat) : Prop := ∀ y, inS ws y = true ↔ GPath Gd 0 y s
theorem gpath_lt {D : BData} {e0 : ExprD} {ch : Nat → List WayD} {Gd : List Edge} (h : GInv D e0 ch Gd) {z y : Nat} {s : List UInt8} (hp : GPath Gd z y s) : z < D.outs.length → y < D.outs.length := by
  induction hp with
  | nil p => exact id
  | step e q s t he _ _ ih => intro _; exact ih (h.under e he).2
theorem leads_start {D : BData} {e0 : ExprD} {ch : Nat → List WayD} {Gd : List Edge} (h : GInv D e0 ch Gd) {n : Nat} {ws : List Nat} (hr : Reached ch 0 (List.replicate n 0) ws) : Leads Gd [] ws := by
  intro y
  have h0 : 0 < D.outs.length := by have := h.two; omega
  rw [hr.all, inS_none, path_eps (plain_done h), erch_epath h h0]
  simp
theorem leads_step {D : BData} {e0 : ExprD} {ch : Nat → List WayD} {Gd : List Edge} (h : GInv D e0 ch Gd) {s : List UInt8} {c : UInt8} {ws1 ws2 ws' : List Nat} (hl : Leads Gd s ws1) (h2 : ∀ y, inS ws2 y = false) (hs : Stp ch ws2 (fun z => ∃ k, inS ws1 k = true ∧ SWay ch (D.K.map wordsOf) c.toNat k z) ws') : Leads Gd (s ++ [c]) ws' := by
  intro y
  have h0 : 0 < D.outs.length := by have := h.two; omega
  rw [hs.all, h2, path_last (plain_done h)]
  constructor
  · rintro (h | ⟨z, ⟨k, hk, hsw⟩, hr⟩)
    · cases h
    · have hkp := (hl k).1 hk
      have hkN := gpath_lt h hkp h0
      obtain ⟨st, he, hc⟩ := (sway_edge h hkN c).1 hsw
      exact ⟨k, z, st, hkp, he, hc, (erch_epath h (edge_lt h he).2).1 hr⟩
  · rintro ⟨x, r, st, hp, he, hc, hr⟩
    have hxN := gpath_lt h hp h0
    exact .inr ⟨r, ⟨x, (hl x).2 hp, (sway_edge h hxN c).2 ⟨st, he, hc⟩⟩, (erch_epath h (edge_lt h he).2).2 hr⟩

/-! ### What the builder left, as it is read -/
theorem wayL_at (l : List WayD) (i : Nat) (x : WayD) (h : l[i]? = some x) (j : Nat) (hj : j < 3) : (wayL l)[i * 3 + j]? = (way3 x)[j]? := by
  induction l generalizing i with
  | nil => cases h
  | cons a l ih =>
    have e : wayL (a :: l) = way3 a ++ wayL l := by simp [wayL]
    have e3 : (way3 a).length = 3 := rfl
    cases i with
    | zero =>
      simp at h
      subst h
      rw [e, List.getElem?_append_left (by rw [e3]; omega)]
      congr 1
      omega
    | succ i =>
      rw [e, List.getElem?_append_right (by rw [e3]; omega), e3, ← ih i (by simpa using h)]
      congr 1
      omega
theorem BSt.graph {B : Nat} {W : World} {b : Nat} {ov wv yv : Value} {st en : Int} {pv : Value} {bm : Nat} {D : BData} (h : BSt B W b ov wv yv st en pv bm D) (hN : 0 < D.outs.length) : ∃ g cap, GraphAt W.heap.size W b g cap wv D.outs D.ways := by
  obtain ⟨g, cap, rfl, _, hgl⟩ := h.out.form hN
  obtain ⟨c0, c1, _⟩ := h.box.cells
  refine ⟨g, cap, (Array.getElem?_eq_some_iff.1 h.box).1, hgl, c0, c1, fun i o ho => ?_, fun i x hx => ?_⟩
  · have hi := (List.getElem?_eq_some_iff.1 ho).1
    rw [h.out.cellAt i (by omega)]
    unfold i64s
    rw [List.getElem?_map, ho]
    rfl
  · have hi := (List.getElem?_eq_some_iff.1 hx).1
    obtain ⟨gw, cw, e, _, hwl⟩ := h.ways.form (by omega)
    have hr := h.ways
    rw [e] at hr
    have key : ∀ j, j < 3 → W.cell? ⟨gw, i * 3 + j, none⟩ = (way3 x)[j]? := fun j hj => by
      rw [hr.cellAt (i * 3 + j) (by omega), wayL_at D.ways i x hx j hj]
    exact ⟨gw, cw, hwl, e, key 0 (by decide), key 1 (by decide), key 2 (by decide)⟩
theorem BSt.bytes {B : Nat} {W : World} {b : Nat} {ov wv yv : Value} {st en : Int} {pv : Value} {bm : Nat} {D : BData} (h : BSt B W b ov wv yv st en pv bm D) : BytesAt W.heap.size W b (D.K.map wordsOf) := by
  intro j bs hj
  rw [List.getElem?_map] at hj
  cases e : D.K[j]? with
  | none => rw [e] at hj; cases hj
  | some t =>
    rw [e] at hj
    cases hj
    have hjl := (List.getElem?_eq_some_iff.1 e).1
    rw [← h.len] at hjl
    obtain ⟨gy, cy, ey, _, hyl⟩ := h.byt.form (by omega)
    obtain ⟨_, _, c2, _⟩ := h.box.cells
    have hr := h.byt
    rw [ey] at hr c2
    have hv : D.svs[j]? = some D.svs[j] := List.getElem?_eq_getElem hjl
    obtain ⟨t', ht', hs⟩ := h.sets j D.svs[j] hv
    rw [e] at ht'
    cases ht'
    refine ⟨gy, cy, D.svs[j], hyl, ?_, ?_, ⟨⟨hs.own.1, ?_⟩, hs.lim⟩, wordsOf_length t, fun g hg => ?_⟩
    · rw [List.length_map, ← h.len]; exact c2
    · rw [hr.cellAt j (by omega), hv]
    · rcases hs.own.2 with e2 | ⟨g, c, cur, e2, _, r⟩
      · exact .inl e2
      · exact .inr ⟨g, c, cur, e2, Nat.zero_le _, r⟩
    · obtain ⟨_, cur, hc⟩ := own_cells hs.own hg
      exact (Array.getElem?_eq_some_iff.1 hc).1
/-- All of a set is struck. -/
theorem zero_cells {B g cap n : Nat} : ∀ (m o : Nat) (W : World) (ws : List Nat), SetRow B W (.slice (some ⟨g, 0, none⟩) n cap) ws → ∃ ws', SetRow B (W.setCells g o (List.replicate m (.int .u64 0))) (.slice (some ⟨g, 0, none⟩) n cap) ws' ∧ ws'.length = ws.length ∧ (∀ i, ws'.getD i 0 = if o ≤ i ∧ i < o + m then 0 else ws.getD i 0) ∧ W.grownBy (W.setCells g o (List.replicate m (.int .u64 0))) (some g) := by
  intro m
  induction m with
  | zero => intro o W ws h; exact ⟨ws, h, rfl, fun i => by rw [if_neg (by omega)], ⟨rfl, rfl, rfl, Nat.le_refl _, fun _ _ _ => rfl⟩⟩
  | succ m ih =>
    intro o W ws h
    have h1 : SetRow B (W.setCell ⟨g, o, none⟩ (.int .u64 0)) (.slice (some ⟨g, 0, none⟩) n cap) (ws.set o 0) := by
      refine ⟨?_, fun x hx => ?_⟩
      · rw [List.length_set]
        have := own_set98 (i := o) h.own (.int .u64 ((0 : Nat) : Int))
        rw [u64s_set] at this
        exact this
      · rcases List.mem_or_eq_of_mem_set hx with hx | rfl
        · exact h.lim x hx
        · decide
    obtain ⟨ws', h2, h3, h4, h5⟩ := ih (o + 1) _ _ h1
    rw [List.replicate_succ]
    refine ⟨ws', h2, by rw [h3, List.length_set], fun i => ?_, grown_trans (set_grown W g o _) h5⟩
    rw [h4 i]
    by_cases hi : o + 1 ≤ i ∧ i < o + 1 + m
    · rw [if_pos hi, if_pos (by omega)]
    · rw [if_neg hi]
      by_cases e : o = i
      · subst e
        rw [if_pos (by omega), List.getD_eq_getElem?_getD]
        rcases Nat.lt_or_ge o ws.length with hl | hl
        · rw [List.getElem?_set_self hl]; rfl
        · rw [List.getElem?_eq_none (by rw [List.length_set]; exact hl)]; rfl
      · rw [if_neg (by omega), List.getD_eq_getElem?_getD, List.getElem?_set_ne e, ← List.getD_eq_getElem?_getD]

theorem GraphAt.wide {n₀ n₁ : Nat} {W : World} {b g cap : Nat} {wv : Value} {outs : List Int} {ways : List WayD} (h : GraphAt n₀ W b g cap wv outs ways) (hn : n₀ ≤ n₁) : GraphAt n₁ W b g cap wv outs ways := by
  refine ⟨Nat.lt_of_lt_of_le h.bl hn, Nat.lt_of_lt_of_le h.gl hn, h.b0, h.b1, h.out, fun i x hx => ?_⟩
  obtain ⟨gw, cw, h1, r⟩ := h.way i x hx
  exact ⟨gw, cw, Nat.lt_of_lt_of_le h1 hn, r⟩
theorem ExprAt.wide {B B' : Nat} {W : World} (hB : B ≤ B') {g o : Nat} {e : ExprD} (h : ExprAt B W g o e) : ExprAt B' W g o e := by
  induction h with
  | nil g o op st hg h0 h1 h2 hs => exact .nil g o op st (by omega) h0 h1 h2 hs
  | row g o op st gk ck ks hg h0 h1 h2 hs hck _ ih => exact .row g o op st gk ck ks (by omega) h0 h1 h2 hs hck ih
theorem KidsAt.wide {B B' : Nat} {W : World} {v : Value} {ks : List ExprD} (h : KidsAt B W v ks) (hB : B ≤ B') : KidsAt B' W v ks := by
  rcases h with h | ⟨gk, ck, h1, h2, h3⟩
  · exact .inl h
  · exact .inr ⟨gk, ck, h1, h2, fun i k hk => (h3 i k hk).wide hB⟩
theorem words_ge (N : Nat) : N ≤ words N * 64 := by unfold words; omega
theorem words_pos {N : Nat} (h : 0 < N) : 0 < words N := by unfold words; omega
set_option maxRecDepth 100000 in
set_option maxHeartbeats 400000 in
theorem newSet_big (n : Nat) (w : World) (hn : n ≤ 100000000) :
    Calls Tryz.prog 92 #[.int .i64 (n : Int)] w fun e w' => ∃ v, e = .returned v ∧ SetRow w.heap.size w' v (List.replicate (words n) 0) ∧ Below w.heap.size w w' := by
  obtain ⟨i0, hi, hz0, hz1, hz2⟩ := info_parts Tryz.info204
  obtain ⟨W, hmk, hown, hgr⟩ := run_makeSlice_full (P := Tryz.prog) (w := w) w.heap.size 158 204 i0 (.int .u64 0) 1 Tryz.underlying158' hi hz0 hz1 .i64 .i64 (words n) (by unfold words; omega) (by rw [hz2]; unfold words; omega) (by unfold words maxLen; omega) (Nat.le_refl _)
  have hN : ((n : Int) + 63) / 64 = ((words n : Nat) : Int) := by unfold words; omega
  have HOWN := hide hown
  have HGR := hide hgr
  obtain ⟨N, hNN⟩ : ∃ N, words n = N := ⟨_, rfl⟩
  rw [hNN] at hmk hN HOWN ⊢
  clear hown hgr hNN
  go_enter Tryz.func92, Tryz.ntmps92
  go_wp2
  go_ret
  refine ⟨_, rfl, ⟨?_, fun x hx => ?_⟩, ?_⟩
  · rw [List.length_replicate, ← made_zero]; exact HOWN.out
  · rw [List.mem_replicate] at hx; omega
  · have := HGR.out; exact ⟨this.os, this.tape, this.output, this.size, fun k hk => this.block k hk (fun e => by cases e)⟩
/-- What the states look like to those that read them. -/
structure AutoAt (n₀ : Nat) (W : World) (b : Nat) (D : BData) (ch : Nat → List WayD) : Prop where
  gr : ∃ g cap wv, GraphAt n₀ W b g cap wv D.outs D.ways
  by_ : BytesAt n₀ W b (D.K.map wordsOf)
  c3 : W.cell? ⟨b, 3, none⟩ = some (.int .i64 0)
  c4 : W.cell? ⟨b, 4, none⟩ = some (.int .i64 1)
  tab : TabW W
  le : n₀ ≤ W.heap.size
  pos : 9 < n₀
  bl : b < n₀
theorem AutoAt.below {n₀ : Nat} {W W' : World} {b : Nat} {D : BData} {ch : Nat → List WayD} (h : AutoAt n₀ W b D ch) (hb : Below n₀ W W') : AutoAt n₀ W' b D ch := by
  obtain ⟨g, cap, wv, hg⟩ := h.gr
  exact ⟨⟨g, cap, wv, hg.below hb⟩, h.by_.below h.bl hb, (hb.cell (p := ⟨b, 3, none⟩) h.bl).trans h.c3, (hb.cell (p := ⟨b, 4, none⟩) h.bl).trans h.c4, h.tab.below h.pos hb, Nat.le_trans h.le hb.size, h.pos, h.bl⟩
set_option maxRecDepth 100000 in
set_option maxHeartbeats 1000000 in
theorem opening_any (n₀ b : Nat) (D : BData) (e0 : ExprD) (ch : Nat → List WayD) (Gd : List Edge) (w : World) (hA : AutoAt n₀ w b D ch) (hI : GInv D e0 ch Gd) (hN : D.outs.length ≤ 100000000) :
    Calls Tryz.prog 91 #[.pointer (some ⟨b, 0, none⟩)] w fun e w' => ∃ v ws, e = .returned v ∧ SetRow w.heap.size w' v ws ∧ ws.length = words D.outs.length ∧ Leads Gd [] ws ∧ Below w.heap.size w w' := by
  obtain ⟨g, cap, wv, hG⟩ := hA.gr
  have c0 := hG.b0
  have h0 : 0 < D.outs.length := by have := hI.two; omega
  have hcl : ClosedS ch (List.replicate (words D.outs.length) 0) := fun x hx => by rw [inS_none] at hx; cases hx
  go_enter Tryz.func91, Tryz.ntmps91
  go_wp2_with (go_at_call 92; refine (newSet_big D.outs.length _ hN).mono ?_; rintro e w1 ⟨v, rfl, hs1, hb1⟩)
  have hblt : b < w.heap.size := Nat.lt_of_lt_of_le hA.bl hA.le
  have c31 := (hb1.cell (p := ⟨b, 3, none⟩) hblt).trans hA.c3
  have hG1 : GraphAt w.heap.size w1 b g cap wv D.outs D.ways := (GraphAt.wide hG hA.le).below hb1
  obtain ⟨gv, cv, hv, hgv, hgl⟩ := hs1.form (by rw [List.length_replicate]; exact words_pos h0)
  rw [List.length_replicate] at hv
  subst hv
  have hs1d : SetRow w.heap.size w1.drew (.slice (some ⟨gv, 0, none⟩) (words D.outs.length) cv) (List.replicate (words D.outs.length) 0) := ⟨hs1.own.kept (grown_drewN w1 1) (.inr (fun e => by cases e)), hs1.lim⟩
  have hG1d : GraphAt w.heap.size w1.drew b g cap wv D.outs D.ways := hG1.below (Below.refl _ _).drew
  have hr0 := reach_any w.heap.size b g cap 0 wv (.slice (some ⟨gv, 0, none⟩) (words D.outs.length) cv) D.outs D.ways ch (List.replicate (words D.outs.length) 0) w1.drew hG1d hb1.size hI.chain (fun x hx d hd => (hI.way x hx d hd).1) hs1d (by rw [List.length_replicate]; exact words_ge _) (by omega) hcl h0
  rw [Int.natCast_zero] at hr0
  obtain ⟨R, hR⟩ : ∃ R, (fun (e : Ending) (W' : World) => e = Ending.returned (Value.tuple #[]) ∧ ∃ ws', SetRow w.heap.size W' (Value.slice (some ⟨gv, 0, none⟩) (words D.outs.length) cv) ws' ∧ Reached ch 0 (List.replicate (words D.outs.length) 0) ws' ∧ w1.drew.grownBy W' (Value.slice (some ⟨gv, 0, none⟩) (words D.outs.length) cv).ownBlock) = R := ⟨_, rfl⟩
  rw [hR] at hr0
  clear hG1d hs1d
  have HB1 := hide hb1
  clear hG1 hG hs1 c0 hA hb1
  go_wp2
  go_region_with (go_at_call 113; refine hr0.mono ?_; intro e w2 hR2; rw [← hR] at hR2; obtain ⟨rfl, hR3⟩ := hR2)
  all_goals go_wp2
  all_goals go_ret
  all_goals
    obtain ⟨ws, hs2, hre, hg2⟩ := hR3
    refine ⟨_, ws, rfl, hs2, by rw [hre.len]; simp, leads_start hI hre, ?_⟩
    exact HB1.out.trans ((Below.refl _ _).drew.trans (below_of_grown hg2 HB1.out.size (fun r e => by cases e; exact hgv)))
end Go.Proofs.YtjbdoeoimodhkaaGreatDoor
