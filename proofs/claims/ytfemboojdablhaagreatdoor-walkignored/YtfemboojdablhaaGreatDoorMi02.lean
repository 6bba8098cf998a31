import Derived.Test.YtfemboojdablhaaGreatDoorMi01
namespace Go.Proofs.YtfemboojdablhaaGreatDoor
open Go.RowKit Go.Shelf
attribute [local go_sem] Oper.semAt_some
theorem wpIn_loop_ghost {F : Fence} {n : Nat} {P : Program} {Q : Exit → Act → World → Prop} {c : Code} (I : Nat → Act → World → Prop)
    (round : ∀ m a w, I m a w → c.wpIn F n P (Exit.then (fun a' w' => ∃ m', m' < m ∧ I m' a' w') Q) a w) (m : Nat) (a : Act) (w : World) (h0 : I m a w) : (Code.loop c).wpIn F n P Q a w := by
  have key : ∀ M m a w, m ≤ M → I m a w → Code.roundsIn F n P c Q (M + 1) a w := by
    intro M
    induction M with
    | zero =>
      intro m a w hm h
      rw [roundsIn_succ]
      refine wpIn_mono (round m a w h) ?_
      intro e a' w' hq
      cases e with
      | normal => obtain ⟨m', h1, _⟩ := hq; omega
      | _ => exact hq
    | succ M ih =>
      intro m a w hm h
      rw [roundsIn_succ]
      refine wpIn_mono (round m a w h) ?_
      intro e a' w' hq
      cases e with
      | normal => obtain ⟨m', h1, h2⟩ := hq; exact ih m' a' w' (by omega) h2
      | _ => exact hq
  exact wpIn_loop_rounds (m + 1) (key m m a w (Nat.le_refl _) h0)
theorem wpListIn_append_lies {F : Fence} {n : Nat} {P : Program} (w : World) {ops : Array Oper} {rest : List Oper} {o : Oper} {a : Act} {Q : Exit → Act → World → Prop}
    (hg : o.guard = none) (s x : Operand) (t : TypeId) (hop : o.op = Op.call { callee := Callee.builtin Builtin.append, args := #[s, x], argTypes := #[t, t] })
    (base : Nat) (e : TypeId) (i : TypeInfo) (z : Value) (size bytes : Nat) (h1 : P.underlying t = some (.slice e)) (h2 : P.info? e = some i) (h3 : i.zero = some z) (h4 : i.size = size) (h5 : i.bytes = bytes) (h6 : z.cells.size = size) (h7 : 0 < size)
    (v : Value) (k : Nat) (xs : List Value) (hs : a.eval s = v) (hown : w.ownsRow base e size v k xs) (ad : Addr) (m c : Nat) (news : List Value) (hx : a.eval x = .slice (some ad) m c) (hn : news.length = m * size)
    (hc : ∀ j u, news[j]? = some u → w.cell? (ad.add j) = some u) (h1c : ∀ u ∈ news, u.oneCell' = true) (hm : 0 < m) (b1 : k + m ≤ maxLen) (b2 : (k + m) * bytes ≤ 140737488355328) (b3 : base ≤ w.heap.size) (H : Nat) (hH : w.heap.size = H)
    (hK : ∀ g cap w', w'.ownsRow base e size (.slice (some ⟨g, 0, none⟩) (k + m) cap) (k + m) (xs ++ news) → w.grownBy w' v.ownBlock → (v.ownBlock = some g ∨ g = H) → g < w'.heap.size → wpListIn F n P ops Q rest (a.put o.dst (.slice (some ⟨g, 0, none⟩) (k + m) cap)) w') :
    wpListIn F n P ops Q (o :: rest) a w := by
  refine wpListIn_plain hg fun K hK' => ?_
  obtain ⟨g, cap, w', hrun, r1, r2, r3, r4⟩ := run_append_lies (P := P) w t o.type base e i z size bytes h1 h2 h3 h4 h5 h6 h7 v k xs hown ad m c news hn hc h1c hm b1 b2 b3 H hH
  unfold Oper.wpIn
  refine ⟨?_, ?_⟩
  · simp [Oper.about, hop, resolve, Target.leads, Sem.run_pure]
  · rw [Oper.semAt_plain F _ _ (by rw [hop]; intro c hc'; cases hc')]
    simp [execOp, hop, resolve, invoke, builtin, hs, hx, hrun, Result.andThen]
    exact hK' _ _ (hK g cap w' r1 r2 r3 r4)
def marks (Ds : List Nat) : List Deferred := Ds.map fun D => { target := .collected D, args := #[] }
theorem leaves_marks {F : Fence} {n : Nat} {P : Program} {fn : Func} {tmps : Array Value} {R : Ending → World → Prop} (C : World → Prop)
    (lo : Nat) (hC : ∀ W D, lo ≤ D → C W → W.heap[D]? = some (.deferred (some [])) → C (W.putObj D (.deferred none))) (hR : ∀ W, C W → ∃ v, (results fn tmps).run P W = .ok v W ∧ R (.returned v) W) :
    ∀ (Ds : List Nat) (W : World), Ds.Nodup → (∀ D ∈ Ds, lo ≤ D ∧ W.heap[D]? = some (.deferred (some []))) → C W → LeavesInM F n P fn tmps R (marks Ds) .returning W := by
  intro Ds
  induction Ds with
  | nil => intro W _ _ h; exact hR W h
  | cons D Ds ih =>
    intro W hn hD h
    refine ⟨by simp, .inl ⟨D, _, rfl, run_takeDeferred (hD D (by simp)).2, ?_⟩⟩
    refine ih _ (List.nodup_cons.1 hn).2 (fun D' h' => ?_) (hC W D (hD D (by simp)).1 h (hD D (by simp)).2)
    have hne : D' ≠ D := fun e => (List.nodup_cons.1 hn).1 (e ▸ h')
    rw [World.putObj_heap_other hne]
    exact hD D' (by simp [h'])
theorem grown_trans {A B C : World} {row : Option Nat} (h : A.grownBy B row) (h2 : B.grownBy C row) : A.grownBy C row :=
  ⟨h2.os.trans h.os, h2.tape.trans h.tape, h2.output.trans h.output, Nat.le_trans h.size h2.size, fun k hk hne => (h2.block k (Nat.lt_of_lt_of_le hk h.size) hne).trans (h.block k hk hne)⟩
theorem grown_below {A B C : World} {row : Option Nat} {m : Nat} (h : A.grownBy B row) (hm : A.heap.size ≤ m) (h2 : Below m B C) : A.grownBy C row :=
  ⟨h2.os.trans h.os, h2.tape.trans h.tape, h2.output.trans h.output, Nat.le_trans h.size h2.size, fun k hk hne => (h2.block k (by omega)).trans (h.block k hk hne)⟩
theorem below_of_grown {A B : World} {row : Option Nat} {m : Nat} (h : A.grownBy B row) (hm : m ≤ A.heap.size) (hr : ∀ r, row = some r → m ≤ r) : Below m A B :=
  ⟨h.os, h.tape, h.output, h.size, fun k hk => h.block k (by omega) (fun e => by have := hr k e.symm; omega)⟩
theorem SetRow.below {B m : Nat} {W W' : World} {v : Value} {ws : List Nat} (h : SetRow B W v ws) (hb : Below m W W') (hm : ∀ g, v.ownBlock = some g → g < m) : SetRow B W' v ws := by
  refine ⟨⟨h.own.1, ?_⟩, h.lim⟩
  rcases h.own.2 with h2 | ⟨g, cap, cur, e, hbb, hg, r⟩
  · exact .inl h2
  · exact .inr ⟨g, cap, cur, e, hbb, (hb.block g (hm g (by rw [e]; rfl))).trans hg, r⟩
theorem cells_kept {W W' : World} {row : Option Nat} {B : Nat} {c : Array Value} {t : TypeId} {fr : Nat × Nat} (h : W.heap[B]? = some (.cells c t fr)) (hg : W.grownBy W' row) (hr : ∀ r, row = some r → ∃ o : Obj, W.heap[r]? = some o ∧ o.isCells = false) : W'.heap[B]? = some (.cells c t fr) := by
  refine (hg.block B (Array.getElem?_eq_some_iff.1 h).1 (fun e => ?_)).trans h
  obtain ⟨o, ho, hc⟩ := hr B e.symm
  rw [h] at ho
  cases ho
  cases hc
theorem ownsRow_keptN {W W' : World} {row : Option Nat} {base e size n : Nat} {v : Value} {xs : List Value} (h : W.ownsRow base e size v n xs) (hg : W.grownBy W' row) (hr : ∀ r, row = some r → ∃ o : Obj, W.heap[r]? = some o ∧ o.isCells = false) : W'.ownsRow base e size v n xs := by
  refine ⟨h.1, ?_⟩
  rcases h.2 with h2 | ⟨g, cap, cur, e, hbb, hg2, r⟩
  · exact .inl h2
  · exact .inr ⟨g, cap, cur, e, hbb, cells_kept hg2 hg hr, r⟩
theorem ownsRow_take {W : World} {base e n m g cap : Nat} {xs : List Value} (h : W.ownsRow base e 1 (.slice (some ⟨g, 0, none⟩) n cap) n xs) (hm : m ≤ n) : W.ownsRow base e 1 (.slice (some ⟨g, 0, none⟩) m cap) m (xs.take m) := by
  refine ⟨?_, ?_⟩
  · have := h.1
    rw [List.length_take, this]; omega
  · rcases h.2 with ⟨e, _⟩ | ⟨g', cap', cur, e, hbb, hg2, h1, h2, h3, h4⟩
    · cases e
    · cases e
      refine .inr ⟨g, cap, cur, rfl, hbb, hg2, by omega, h2, h3, ?_⟩
      rw [← h4, List.take_take, Nat.min_eq_left (by omega), Nat.mul_one]
structure GraphAt (n₀ : Nat) (W : World) (b g cap : Nat) (wv : Value) (outs : List Int) (ways : List WayD) : Prop where
  bl : b < n₀
  gl : g < n₀
  b0 : W.cell? ⟨b, 0, none⟩ = some (.slice (some ⟨g, 0, none⟩) outs.length cap)
  b1 : W.cell? ⟨b, 1, none⟩ = some wv
  out : ∀ (i : Nat) (o : Int), outs[i]? = some o → W.cell? ⟨g, i, none⟩ = some (.int .i64 o)
  way : ∀ (i : Nat) (x : WayD), ways[i]? = some x → ∃ gw cw, gw < n₀ ∧ wv = .slice (some ⟨gw, 0, none⟩) ways.length cw ∧ W.cell? ⟨gw, i * 3, none⟩ = some (.int .i64 x.to) ∧ W.cell? ⟨gw, i * 3 + 1, none⟩ = some (.int .i64 x.by_) ∧ W.cell? ⟨gw, i * 3 + 2, none⟩ = some (.int .i64 x.then_)
theorem GraphAt.below {n₀ : Nat} {W W' : World} {b g cap : Nat} {wv : Value} {outs : List Int} {ways : List WayD} (h : GraphAt n₀ W b g cap wv outs ways) (hb : Below n₀ W W') : GraphAt n₀ W' b g cap wv outs ways := by
  refine ⟨h.bl, h.gl, (hb.cell (p := ⟨b, 0, none⟩) h.bl).trans h.b0, (hb.cell (p := ⟨b, 1, none⟩) h.bl).trans h.b1, fun i o ho => (hb.cell (p := ⟨g, i, none⟩) h.gl).trans (h.out i o ho), fun i x hx => ?_⟩
  obtain ⟨gw, cw, h1, h2, h3, h4, h5⟩ := h.way i x hx
  exact ⟨gw, cw, h1, h2, (hb.cell (p := ⟨gw, _, none⟩) h1).trans h3, (hb.cell (p := ⟨gw, _, none⟩) h1).trans h4, (hb.cell (p := ⟨gw, _, none⟩) h1).trans h5⟩
set_option maxRecDepth 100000 in
set_option maxHeartbeats 400000 in
theorem from_any (b k : Nat) (w : World) :
    Calls Tryz.prog 202 #[.pointer (some ⟨b, 0, none⟩), .int .i64 (k : Int)] w fun e w' => e = .returned (.func (.func 235) #[] #[.pointer (some ⟨w.heap.size, 0, none⟩), .pointer (some ⟨w.heap.size + 1, 0, none⟩)]) ∧ w' = (w.alloc (.cells #[.pointer (some ⟨b, 0, none⟩)] 231)).alloc (.cells #[.int .i64 (k : Int)] 3) := by
  go_enter Tryz.func202, Tryz.ntmps202
  go_wp2
  go_ret
  exact ⟨rfl, rfl⟩
def nats (l : List Nat) : List Value := l.map fun (y : Nat) => Value.int .i64 (y : Int)
structure RLoop (n₀ base : Nat) (w : World) (gi ci B4 B6 nws : Nat) (ws1 opn : List Nat) (go co : Nat) (W : World) : Prop where
  b4 : Boxed W B4 246 (.slice (some ⟨gi, 0, none⟩) nws ci)
  b6 : Boxed W B6 40 (.slice (some ⟨go, 0, none⟩) opn.length co)
  set : SetRow n₀ W (.slice (some ⟨gi, 0, none⟩) nws ci) ws1
  row : W.ownsRow base 3 1 (.slice (some ⟨go, 0, none⟩) opn.length co) opn.length (nats opn)
  gr : w.grownBy W (some gi)
theorem RLoop.last {n₀ base : Nat} {w : World} {gi ci B4 B6 nws : Nat} {ws1 l : List Nat} {x go co : Nat} {W : World} (h : RLoop n₀ base w gi ci B4 B6 nws ws1 (l ++ [x]) go co W) : W.cell? ⟨go, l.length, none⟩ = some (.int .i64 (x : Int)) := by
  have := h.row.cellAt l.length (by simp)
  rw [this]
  simp [nats]
theorem RLoop.of_grown {n₀ base : Nat} {w : World} {gi ci B4 B6 nws : Nat} {ws1 opn : List Nat} {go co : Nat} {W W' : World} {row : Option Nat} (h : RLoop n₀ base w gi ci B4 B6 nws ws1 opn go co W) (hg : W.grownBy W' row) (hr : ∀ r, row = some r → w.heap.size ≤ r ∧ ∃ o : Obj, W.heap[r]? = some o ∧ o.isCells = false) : RLoop n₀ base w gi ci B4 B6 nws ws1 opn go co W' :=
  ⟨cells_kept h.b4 hg (fun r e => (hr r e).2), cells_kept h.b6 hg (fun r e => (hr r e).2), ⟨ownsRow_keptN h.set.own hg (fun r e => (hr r e).2), h.set.lim⟩, ownsRow_keptN h.row hg (fun r e => (hr r e).2),
   ⟨hg.os.trans h.gr.os, hg.tape.trans h.gr.tape, hg.output.trans h.gr.output, Nat.le_trans h.gr.size hg.size, fun k hk hne => (hg.block k (Nat.lt_of_lt_of_le hk h.gr.size) (fun e => by have := (hr k e.symm).1; omega)).trans (h.gr.block k hk hne)⟩⟩
theorem RLoop.alloc {n₀ base : Nat} {w : World} {gi ci B4 B6 nws : Nat} {ws1 opn : List Nat} {go co : Nat} {W : World} (h : RLoop n₀ base w gi ci B4 B6 nws ws1 opn go co W) (o : Obj) : RLoop n₀ base w gi ci B4 B6 nws ws1 opn go co (W.alloc o) :=
  h.of_grown (World.grownBy_alloc W o none) (fun r e => by cases e)
theorem RLoop.drew {n₀ base : Nat} {w : World} {gi ci B4 B6 nws : Nat} {ws1 opn : List Nat} {go co : Nat} {W : World} (h : RLoop n₀ base w gi ci B4 B6 nws ws1 opn go co W) : RLoop n₀ base w gi ci B4 B6 nws ws1 opn go co W.drew :=
  h.of_grown (row := none) ⟨rfl, rfl, rfl, Nat.le_refl _, fun _ _ _ => rfl⟩ (fun r e => by cases e)
theorem RLoop.add {n₀ base : Nat} {w : World} {gi ci B4 B6 nws : Nat} {ws1 ws2 opn : List Nat} {go co : Nat} {W W' : World} (h : RLoop n₀ base w gi ci B4 B6 nws ws1 opn go co W) (hs : SetRow n₀ W' (.slice (some ⟨gi, 0, none⟩) nws ci) ws2) (hp : 0 < nws) (hg : W.grownBy W' (some gi)) : RLoop n₀ base w gi ci B4 B6 nws ws2 opn go co W' := by
  obtain ⟨cur, hc⟩ : ∃ cur, W.heap[gi]? = some (.cells cur 205 (0, 0)) := by
    rcases h.set.own.2 with ⟨e, _⟩ | ⟨g', cap', cur, e, _, hg, _⟩
    · cases e
    · cases e; exact ⟨cur, hg⟩
  have n4 : some B4 ≠ some gi := fun e => by
    have h1 := h.b4
    unfold Boxed at h1
    rw [Option.some.inj e, hc] at h1
    cases h1
  have n6 : some B6 ≠ some gi := fun e => by
    have h1 := h.b6
    unfold Boxed at h1
    rw [Option.some.inj e, hc] at h1
    cases h1
  exact ⟨h.b4.kept hg n4, h.b6.kept hg n6, hs, h.row.kept hg (.inr (own_not_box h.row hc (by decide))), grown_trans h.gr hg⟩
theorem RLoop.cut {n₀ base : Nat} {w : World} {gi ci B4 B6 nws : Nat} {ws1 l : List Nat} {x go co : Nat} {W : World} (h : RLoop n₀ base w gi ci B4 B6 nws ws1 (l ++ [x]) go co W) (hb : w.heap.size ≤ B6) : RLoop n₀ base w gi ci B4 B6 nws ws1 l go co (W.setCell ⟨B6, 0, none⟩ (.slice (some ⟨go, 0, none⟩) l.length co)) := by
  have hg := grownBy_setCell' W B6 (.slice (some ⟨go, 0, none⟩) l.length co)
  have h46 : B4 ≠ B6 := by
    intro e
    have h1 := h.b4
    have h2 := h.b6
    unfold Boxed at h1 h2
    rw [e, h2] at h1
    cases h1
  have hrow := ownsRow_take h.row (m := l.length) (by simp)
  have e1 : (nats (l ++ [x])).take l.length = nats l := by simp [nats]
  rw [e1] at hrow
  refine ⟨h.b4.kept hg (fun e => h46 (Option.some.inj e)), h.b6.set _, ⟨h.set.own.kept hg (.inr (h.b6.not_row (by decide) h.set.own).symm), h.set.lim⟩, hrow.kept hg (.inr (h.b6.not_row (by decide) hrow).symm), ?_⟩
  exact ⟨hg.os.trans h.gr.os, hg.tape.trans h.gr.tape, hg.output.trans h.gr.output, Nat.le_trans h.gr.size hg.size, fun k hk hne => (hg.block k (Nat.lt_of_lt_of_le hk h.gr.size) (fun e => by cases e; omega)).trans (h.gr.block k hk hne)⟩
theorem Tryz.underlying40' : Tryz.prog.underlying 40 = some (.slice 3) := by kernel_rfl
set_option maxRecDepth 100000 in
set_option maxHeartbeats 4000000 in
theorem reach_any (n₀ b g cap k : Nat) (wv v : Value) (outs : List Int) (ways : List WayD) (ch : Nat → List WayD) (ws : List Nat) (w : World) (hG : GraphAt n₀ w b g cap wv outs ways) (hn₀ : n₀ ≤ w.heap.size)
    (hch : ∀ x, x < outs.length → ∃ o, outs[x]? = some o ∧ ChainIs ways o (ch x)) (hV : ∀ x, x < outs.length → ∀ d ∈ ch x, ∃ y : Nat, d.to = (y : Int) ∧ y < outs.length)
    (hs : SetRow n₀ w v ws) (hN : outs.length ≤ ws.length * 64) (hNb : outs.length ≤ 100000000) (hcl : ClosedS ch ws) (hk : k < outs.length) :
    Calls Tryz.prog 240 #[.pointer (some ⟨b, 0, none⟩), v, .int .i64 (k : Int)] w fun e W' => e = .returned (.tuple #[]) ∧ ∃ ws', SetRow n₀ W' v ws' ∧ Reached ch k ws ws' ∧ w.grownBy W' v.ownBlock := by
  obtain ⟨gi, ci, rfl, hgi, hgl⟩ := hs.form (by omega)
  obtain ⟨i0, hi, hz0, hz1, hz2⟩ := info_parts Tryz.info3
  refine (callsIn_wide (n := 6)).1 ?_
  refine callsIn_of_wp_marks Tryz.func240 rfl trivial ?_ rfl
  simp only [Tryz.ntmps240, List.size_toArray, List.length_cons, List.length_nil, Nat.reduceAdd, Nat.reduceSub, Array.replicate_succ, Array.replicate_zero, List.push_toArray, List.append_toArray, List.nil_append, List.cons_append]
  have hs1 : SetRow n₀ (w.alloc (.cells #[.slice (some ⟨gi, 0, none⟩) ws.length ci] 246)) (.slice (some ⟨gi, 0, none⟩) ws.length ci) ws := hs.below ((Below.refl w.heap.size w).alloc (Nat.le_refl _) _) (fun g' e => by cases e; exact hgl)
  have b4 := Boxed.new w 246 (.slice (some ⟨gi, 0, none⟩) ws.length ci)
  have c4 := b4.cell
  cases hin : inS ws k with
  | true =>
    gi_wp2_with (refine ⟨trivial, ?_⟩; gi_at_call 211; refine (callsIn_wide.2 (has_any k _ hs1 (by omega) (by omega))).mono ?_; rw [hin]; rintro e w' ⟨rfl, rfl⟩)
    exact ⟨_, results_none rfl _ _ _, rfl, ws, hs1, Reached.there hcl hin, World.grownBy_alloc w _ _⟩
  | false =>
    gi_wp2_with first
      | (refine ⟨trivial, ?_⟩; gi_at_call 211; refine (callsIn_wide.2 (has_any k _ hs1 (by omega) (by omega))).mono ?_; rw [hin]; rintro e w' ⟨rfl, rfl⟩)
      | (refine ⟨trivial, ?_⟩; gi_at_call 239; refine (callsIn_wide.2 (add_any k _ hs1 (by omega) (by omega))).mono ?_; rintro e w1 ⟨rfl, hs2, hsz1, hgr1⟩)
    have hsz : w1.heap.size = w.heap.size + 1 := by rw [hsz1]; simp
    have b4' : Boxed w1 w.heap.size 246 (.slice (some ⟨gi, 0, none⟩) ws.length ci) := b4.kept hgr1 (fun e => by have e' : w.heap.size = gi := Option.some.inj e; omega)
    have hgr0 : w.grownBy w1 (some gi) := grown_trans (World.grownBy_alloc w _ _) hgr1
    have hL0 : RLoop n₀ (w.heap.size + 1) w gi ci w.heap.size (w.heap.size + 1 + 1) ws.length (addS ws k) [k] (w.heap.size + 1) 1 ((w1.alloc (.cells #[.int .i64 (k : Int)] 3)).alloc (.cells #[.slice (some ⟨w.heap.size + 1, 0, none⟩) 1 1] 40)) := by
      have b6 := Boxed.new (w1.alloc (.cells #[.int .i64 (k : Int)] 3)) 40 (.slice (some ⟨w.heap.size + 1, 0, none⟩) 1 1)
      rw [World.size_alloc, hsz] at b6
      have hr : (w1.alloc (.cells #[.int .i64 (k : Int)] 3)).ownsRow (w.heap.size + 1) 3 1 (.slice (some ⟨w.heap.size + 1, 0, none⟩) 1 1) 1 (nats [k]) := by
        refine ⟨rfl, .inr ⟨w.heap.size + 1, 1, #[.int .i64 (k : Int)], rfl, Nat.le_refl _, ?_, Nat.le_refl _, by decide, rfl, rfl⟩⟩
        have := World.alloc_heap_new w1 (.cells #[.int .i64 (k : Int)] 3)
        rw [hsz] at this
        exact this
      refine ⟨(b4'.alloc _).alloc _, b6, ⟨(hs2.own.alloc _).alloc _, hs2.lim⟩, hr.alloc _, ?_⟩
      exact grown_trans (grown_trans hgr0 (World.grownBy_alloc _ _ _)) (World.grownBy_alloc _ _ _)
    have hRI := RI.start hN hk hcl hin
    clear hs2 hgr1 hgr0 b4' c4 b4 hs1 hsz1 hsz hs
    obtain ⟨W0, hW0⟩ : ∃ W0, (w1.alloc (.cells #[.int .i64 (k : Int)] 3)).alloc (.cells #[.slice (some ⟨w.heap.size + 1, 0, none⟩) 1 1] 40) = W0 := ⟨_, rfl⟩
    rw [hW0] at hL0 ⊢
    clear hW0 w1
    refine wpIn_loop_ghost (fun m a W => ∃ (ws1 opn : List Nat) (go co : Nat) (Ds : List Nat) (u2 u7 u17 u18 u19 u20 u21 u22 u23 u24 u25 u26 u27 u28 u29 u30 u31 u32 : Value),
      a = { tmps := #[.pointer (some ⟨b, 0, none⟩), .slice (some ⟨gi, 0, none⟩) ws.length ci, u2, undef, .pointer (some ⟨w.heap.size, 0, none⟩), undef, .pointer (some ⟨w.heap.size + 1 + 1, 0, none⟩), u7, undef,
        .slice (some ⟨gi, 0, none⟩) ws.length ci, .int .i64 (k : Int), .bool false, .slice (some ⟨gi, 0, none⟩) ws.length ci, .int .i64 (k : Int), .tuple #[], .int .i64 (k : Int), .slice (some ⟨w.heap.size + 1, 0, none⟩) 1 1,
        u17, u18, u19, u20, u21, u22, u23, u24, u25, u26, u27, u28, u29, u30, u31, u32, undef, undef, undef, undef, undef, undef, undef, undef, undef, undef, undef, undef, undef, undef, undef, undef, undef, undef, undef, undef], defers := marks Ds } ∧
      RLoop n₀ (w.heap.size + 1) w gi ci w.heap.size (w.heap.size + 1 + 1) ws.length ws1 opn go co W ∧ RI outs.length ch k ws m (fun _ => False) ws1 opn ∧ m ≤ outs.length + 1 ∧ Ds.Nodup ∧ ∀ D ∈ Ds, w.heap.size ≤ D ∧ W.heap[D]? = some (.deferred (some []))) ?round (outs.length + 1) _ _ ⟨addS ws k, [k], _, _, [], _, _, _, _, _, _, _, _, _, _, _, _, _, _, _, _, _, _, rfl, hL0, hRI, Nat.le_refl _, List.nodup_nil, fun D h => by cases h⟩
    clear hL0 hRI W0
    rintro m a W ⟨ws1, opn, go, co, Ds, u2, u7, u17, u18, u19, u20, u21, u22, u23, u24, u25, u26, u27, u28, u29, u30, u31, u32, rfl, hL, hR, hmb, hDn, hD⟩
    rcases List.eq_nil_or_concat opn with rfl | ⟨l, x, rfl⟩
    · have c6 := hL.b6.cell
      have HL := hide hL
      have HR := hide hR
      have HD := hide hD
      clear hL hR hD
      gi_wp2
      refine leaves_marks (fun W' => SetRow n₀ W' (.slice (some ⟨gi, 0, none⟩) ws.length ci) ws1 ∧ w.grownBy W' (some gi)) w.heap.size ?_ ?_ Ds W hDn HD.out ⟨HL.out.set, HL.out.gr⟩
      · rintro W' D hlo ⟨h1, h2⟩ hk
        have hp := grownBy_putObj' W' D (.deferred none)
        exact ⟨⟨ownsRow_putObj h1.own _ hk rfl, h1.lim⟩, hp.os.trans h2.os, hp.tape.trans h2.tape, hp.output.trans h2.output, Nat.le_trans h2.size hp.size, fun j hj hne => (hp.block j (Nat.lt_of_lt_of_le hj h2.size) (fun e => by cases e; omega)).trans (h2.block j hj hne)⟩
      · rintro W' ⟨h1, h2⟩
        exact ⟨_, results_none rfl _ _ _, rfl, ws1, h1, HR.out.done, h2⟩
    · rw [List.concat_eq_append] at hL hR
      have c6 := hL.b6.cell
      have f6 := hL.b6.frozen
      have cl := hL.last
      have hlen : (l ++ [x]).length = l.length + 1 := by simp
      rw [hlen] at c6
      have hsub : ((l.length + 1 : Nat) : Int) - 1 = (l.length : Int) := by omega
      have hlb : l.length ≤ 100000001 := by
        have := hR.mu
        rw [hlen] at this
        omega
      have hcap : l.length + 1 ≤ co := by
        rcases hL.row.2 with ⟨e, _⟩ | ⟨g', cap', cur, e, _, _, h, _⟩
        · cases e
        · cases e; rw [hlen] at h; exact h
      have HL := hide hL
      have HR := hide hR
      have HD := hide hD
      clear hL hR hD
      gi_wp2
      refine (fun (KEY : (?G : Prop)) => ?main) ?key
      case main =>
        gi_region
        all_goals exact KEY
      case key =>
        have hL1 := (HL.out.cut (by omega)).drew
        have hD1 : ∀ D ∈ Ds, w.heap.size ≤ D ∧ ((W.setCell ⟨w.heap.size + 1 + 1, 0, none⟩ (.slice (some ⟨go, 0, none⟩) l.length co)).drew).heap[D]? = some (.deferred (some [])) := fun D h => ⟨(HD.out D h).1, (KeepsOthers.drew _).same D _ ((KeepsOthers.setCell W _ _).same D _ (HD.out D h).2 rfl) rfl⟩
        obtain ⟨hR1, hxN, hxin, hm1⟩ := HR.out.pop
        obtain ⟨W1, hW1⟩ : ∃ W1, (W.setCell ⟨w.heap.size + 1 + 1, 0, none⟩ (.slice (some ⟨go, 0, none⟩) l.length co)).drew = W1 := ⟨_, rfl⟩
        rw [hW1] at hL1 hD1 ⊢
        clear hW1 HL HR HD c6 f6 cl hlen hsub hcap W
        gi_wp2_with (refine ⟨trivial, ?_⟩; gi_at_call 202; refine (callsIn_wide.2 (from_any b x _)).mono ?_; rintro e w' ⟨rfl, rfl⟩)
        have bs := (Boxed.new W1 231 (.pointer (some ⟨b, 0, none⟩))).alloc (.cells #[.int .i64 (x : Int)] 3)
        have bk := Boxed.new (W1.alloc (.cells #[.pointer (some ⟨b, 0, none⟩)] 231)) 3 (.int .i64 (x : Int))
        rw [World.size_alloc] at bk
        have hL2 := (hL1.alloc (.cells #[.pointer (some ⟨b, 0, none⟩)] 231)).alloc (.cells #[.int .i64 (x : Int)] 3)
        have hD2 : ∀ D ∈ Ds, w.heap.size ≤ D ∧ ((W1.alloc (.cells #[.pointer (some ⟨b, 0, none⟩)] 231)).alloc (.cells #[.int .i64 (x : Int)] 3)).heap[D]? = some (.deferred (some [])) := fun D h => ⟨(hD1 D h).1, (KeepsOthers.alloc _ _).same D _ ((KeepsOthers.alloc _ _).same D _ (hD1 D h).2 rfl) rfl⟩
        have hsz2 : ((W1.alloc (.cells #[.pointer (some ⟨b, 0, none⟩)] 231)).alloc (.cells #[.int .i64 (x : Int)] 3)).heap.size = W1.heap.size + 2 := by simp
        obtain ⟨W2, hW2⟩ : ∃ W2, (W1.alloc (.cells #[.pointer (some ⟨b, 0, none⟩)] 231)).alloc (.cells #[.int .i64 (x : Int)] 3) = W2 := ⟨_, rfl⟩
        rw [hW2] at bs bk hL2 hD2 hsz2 ⊢
        have hwW1 : w.heap.size ≤ W1.heap.size := hL1.gr.size
        have hB6W1 : w.heap.size + 1 + 1 < W1.heap.size := hL1.b6.lt
        have hG2 : GraphAt n₀ W2 b g cap wv outs ways := hG.below (below_of_grown hL2.gr hn₀ (fun r e => by cases e; exact hgi))
        clear hW2 hL1 hD1
        obtain ⟨o, ho, hco⟩ := hch x hxN
        refine wpIn_rangeFunc_ownH rfl (by decide) (gf := 235) (lb := #[.pointer (some ⟨W1.heap.size, 0, none⟩), .pointer (some ⟨W1.heap.size + 1, 0, none⟩)]) rfl trivial (enters_of Tryz.func235 (by kernel_rfl) rfl)
          (from_stops Fence.wide (6 - 1) trivial rfl (by decide) W1.heap.size (W1.heap.size + 1) b g cap wv x outs ways (ch x) o ho hco (fun d => ∃ y : Nat, d.to = (y : Int) ∧ y < outs.length ∧ d ∈ ch x) (fun d hd => by obtain ⟨y, h1, h2⟩ := hV x hxN d hd; exact ⟨y, h1, h2, hd⟩)
            (fun A B => Below n₀ A B ∧ ∀ u, A.cell? ⟨W1.heap.size, 0, none⟩ = some u → B.cell? ⟨W1.heap.size, 0, none⟩ = some u) ?hKp W2 ?hat) ?hKt ?hKb (Below.refl _ _) (fun _ => rfl)
          (fun pre W => ∃ ws1' opn go co, RLoop n₀ (w.heap.size + 1) w gi ci w.heap.size (w.heap.size + 1 + 1) ws.length ws1' opn go co W ∧ Boxed W W1.heap.size 231 (.pointer (some ⟨b, 0, none⟩)) ∧ KeepsFrom 0 W2 W ∧
            RI outs.length ch k ws (m - 1) (fun y => y = x) ws1' opn ∧ inS ws1' x = true ∧ ∀ d ∈ pre, d.1.by_ = -1 → ∀ y : Nat, d.1.to = (y : Int) → inS ws1' y = true)
          (fun _ _ _ => False)
          ?hI (fun _ _ _ _ _ hs _ _ => hs) ⟨ws1, l, go, co, hL2, bs, KeepsFrom.refl _ _, hR1, hxin, fun d hd => by cases hd⟩
          (fun d a' W => ∃ Bx : Nat, W.heap[Bx]? = some (Obj.cells #[.int .i64 d.1.to, .int .i64 d.1.by_, .int .i64 d.1.then_] 290 (0, 0)) ∧ a' = { tmps := #[.pointer (some ⟨b, 0, none⟩), .slice (some ⟨gi, 0, none⟩) ws.length ci, .int .i64 (x : Int), undef, .pointer (some ⟨w.heap.size, 0, none⟩), undef, .pointer (some ⟨w.heap.size + 1 + 1, 0, none⟩), .int .i64 (l.length : Int), .pointer (some ⟨Bx, 0, none⟩),
            .slice (some ⟨gi, 0, none⟩) ws.length ci, .int .i64 (k : Int), .bool false, .slice (some ⟨gi, 0, none⟩) ws.length ci, .int .i64 (k : Int), .tuple #[], .int .i64 (k : Int), .slice (some ⟨w.heap.size + 1, 0, none⟩) 1 1,
            .slice (some ⟨go, 0, none⟩) (l.length + 1) co, .int .i64 ((l.length : Int) + 1), .bool true, .slice (some ⟨go, 0, none⟩) (l.length + 1) co, .int .i64 ((l.length : Int) + 1), .int .i64 (l.length : Int), .slice (some ⟨go, 0, none⟩) (l.length + 1) co, .int .i64 (l.length : Int), .pointer (some ⟨go, l.length, none⟩), .int .i64 (x : Int), .slice (some ⟨go, 0, none⟩) (l.length + 1) co, .int .i64 (l.length : Int), .slice (some ⟨go, 0, none⟩) l.length co,
            .pointer (some ⟨b, 0, none⟩), .int .i64 (x : Int), .func (.func 235) #[] #[.pointer (some ⟨W1.heap.size, 0, none⟩), .pointer (some ⟨W1.heap.size + 1, 0, none⟩)], .agg #[.int .i64 d.1.to, .int .i64 d.1.by_, .int .i64 d.1.then_], undef, undef, undef, undef, undef, undef, undef, undef, undef, undef, undef, undef, undef, undef, undef, undef, undef, undef, undef], defers := [] })
          ?hAx ?assign ?body ?done ?stop
        case hKp =>
          rintro A B ⟨h1, h2⟩ h
          refine ⟨h2 _ h.bs, (h1.cell (p := ⟨b, 1, none⟩) hG.bl).trans h.b1, fun i d hd => ?_⟩
          obtain ⟨gw, cw, e, c1, c2, c3⟩ := h.way i d hd
          obtain ⟨gw', cw', hl', e', _⟩ := hG.way i d hd
          rw [e] at e'
          cases e'
          exact ⟨gw, cw, e, (h1.cell (p := ⟨gw, _, none⟩) hl').trans c1, (h1.cell (p := ⟨gw, _, none⟩) hl').trans c2, (h1.cell (p := ⟨gw, _, none⟩) hl').trans c3⟩
        case hat =>
          intro W hW
          have hg := hG2.below (hW.mono (show n₀ ≤ W2.heap.size by omega))
          refine ⟨(hW.cell (p := ⟨W1.heap.size, 0, none⟩) (by show W1.heap.size < _; omega)).trans bs.cell, (hW.cell (p := ⟨W1.heap.size + 1, 0, none⟩) (by show W1.heap.size + 1 < _; omega)).trans bk.cell, hg.b0, hg.b1, hg.out, fun i d hd => ?_⟩
          obtain ⟨gw, cw, _, e, c⟩ := hg.way i d hd
          exact ⟨gw, cw, e, c⟩
        case hKt =>
          rintro A B C ⟨h1, h2⟩ ⟨h3, h4⟩
          exact ⟨h1.trans h3, fun u hu => h4 u (h2 u hu)⟩
        case hKb =>
          intro W l o o' hl ho hc hw
          refine ⟨belowK_b (w := W2) (by omega) W l o o' hl ho hc hw, fun u hu => ?_⟩
          exact (World.cell?_of_block (World.putObj_heap_other (show W1.heap.size ≠ l by omega))).trans hu
        case hI =>
          rintro pre A B row ⟨ws1', opn, go, co, h1, h2, h3, h4, h5, h6⟩ hg hr
          exact ⟨ws1', opn, go, co, h1.of_grown hg (fun r e => ⟨by have := (hr r e).1; omega, (hr r e).2⟩), cells_kept h2 hg (fun r e => (hr r e).2), ownFrom_keepsFrom (β := Unit) (Nat.le_refl _) () A B row h3 hg hr, h4, h5, h6⟩
        case hAx =>
          rintro d a' _ A B row ⟨Bx, h1, h2⟩ hg hr
          exact ⟨Bx, cells_kept h1 hg (fun r e => (hr r e).2), h2⟩
        case assign =>
          rintro l1 pre d W K ⟨ws1', opn, go', co', h1, h2, h3, h4, h5, h6⟩ hK
          have hsW : W2.heap.size ≤ W.heap.size := h3.size
          dsimp only [encW]
          gi_wp2
          refine hK _ _ ((KeepsOthers.alloc _ _).from _) ⟨(Below.refl _ W).alloc (by omega) _, fun u hu => ?_⟩ ⟨ws1', opn, go', co', h1.alloc _, h2.alloc _, h3.trans ((KeepsOthers.alloc _ _).from _), h4, h5, h6⟩ ⟨W.heap.size, World.alloc_heap_new W _, rfl⟩
          exact (((Below.refl W.heap.size W).alloc (Nat.le_refl _) _).cell (p := ⟨W1.heap.size, 0, none⟩) (by show W1.heap.size < _; omega)).trans hu
        case body =>
          rintro l1 pre d a' W hl1 ⟨r, hr⟩ ⟨ws1', opn, go', co', h1, h2, h3, h4, h5, h6⟩ ⟨Bx, hBx, rfl⟩ hlt
          obtain ⟨d, y, hdy, hyN, hdm⟩ := d
          dsimp only at hBx ⊢
          have cb0 : W.cell? ⟨Bx, 0, none⟩ = some (.int .i64 d.to) := by simp [World.cell?, hBx]
          have cb1 : W.cell? ⟨Bx, 1, none⟩ = some (.int .i64 d.by_) := by simp [World.cell?, hBx]
          rw [hdy] at cb0
          have c4 := h1.b4.cell
          have c6 := h1.b6.cell
          have f6 := h1.b6.frozen
          have hyw : y / 64 < ws1'.length := by rw [h4.len]; omega
          have hset := h1.set
          have Kp0 : Below n₀ W W ∧ ∀ u, W.cell? ⟨W1.heap.size, 0, none⟩ = some u → W.cell? ⟨W1.heap.size, 0, none⟩ = some u := ⟨Below.refl _ _, fun u hu => hu⟩
          have HOLD : Hid (RLoop n₀ (w.heap.size + 1) w gi ci w.heap.size (w.heap.size + 1 + 1) ws.length ws1' opn go' co' W ∧ Boxed W W1.heap.size 231 (.pointer (some ⟨b, 0, none⟩)) ∧ KeepsFrom 0 W2 W ∧ RI outs.length ch k ws (m - 1) (fun y => y = x) ws1' opn) := ⟨h1, h2, h3, h4⟩
          have HPRE := hide h6
          clear h1 h2 h3 h4 h6
          by_cases hby : d.by_ = -1
          · have hbe : (d.by_ == -1) = true := by rw [hby]; rfl
            cases hiy : inS ws1' y with
            | true =>
              gi_wp2_with (refine ⟨trivial, ?_⟩; gi_at_call 211; refine (CallsIn.inRound l1 (callsIn_wide.2 (has_any y _ hset hyw (by omega)))).mono ?_; rw [hiy]; rintro e w' ⟨rfl, rfl⟩)
              obtain ⟨q1, q2, q3, q4⟩ := HOLD.out
              refine ⟨KeepsFrom.refl _ _, Kp0, ws1', opn, go', co', q1, q2, q3, q4, h5, fun e he hb z hz => ?_⟩
              rcases List.mem_append.1 he with he | he
              · exact HPRE.out e he hb z hz
              · rw [List.mem_singleton] at he
                subst he
                have : (y : Int) = z := hdy.symm.trans hz
                have : y = z := by omega
                rw [← this]; exact hiy
            | false =>
              have hrow := HOLD.out.1.row
              have hob : opn.length ≤ 100000001 := by have := HOLD.out.2.2.2.mu; omega
              have hwW : w.heap.size + 1 + 1 < W.heap.size := HOLD.out.1.b6.lt
              have HBg : Hid (some Bx ≠ (Value.slice (some ⟨gi, 0, none⟩) ws.length ci).ownBlock) := by
                intro e
                have e' : Bx = gi := Option.some.inj e
                rcases hset.own.2 with ⟨e, _⟩ | ⟨g', cap', cur, e, _, hg, _⟩
                · cases e
                · simp only [Value.slice.injEq, Option.some.injEq, Addr.mk.injEq] at e
                  rw [e', e.1.1, hg] at hBx; cases hBx
              gi_wp2_with first
                | (refine ⟨trivial, ?_⟩; gi_at_call 211; refine (CallsIn.inRound l1 (callsIn_wide.2 (has_any y _ hset hyw (by omega)))).mono ?_; rw [hiy]; rintro e w' ⟨rfl, rfl⟩)
                | (refine ⟨trivial, ?_⟩; gi_at_call 239; refine (CallsIn.inRound l1 (callsIn_wide.2 (add_any y _ hset hyw (by omega)))).mono ?_; rintro e w1 ⟨rfl, hs2, hsz1, hgr1⟩; have hszl := Nat.le_of_eq hsz1.symm; clear hsz1; have hL1 := HOLD.out.1.add hs2 (by omega) hgr1; have c6' := hL1.b6.cell; have f6' := hL1.b6.frozen; have hrow1 := hL1.row; have cb0' : w1.cell? ⟨Bx, 0, none⟩ = some (.int .i64 (y : Int)) := (World.cell?_of_block (hgr1.block Bx (Array.getElem?_eq_some_iff.1 hBx).1 (unhide HBg))).trans cb0)
                | (gi_at_builtin; refine wpListIn_append_lies _ rfl (.tmp 48) (.tmp 51) 40 rfl (w.heap.size + 1) 3 i0 _ 1 8 Tryz.underlying40' hi hz0 hz1 hz2 rfl (by decide) _ _ _ rfl (hrow1.alloc _) ⟨w1.heap.size, 0, none⟩ 1 1 [.int .i64 (y : Int)] rfl rfl (cell_one_new _ _ _) (by simp [Value.oneCell']) (by decide) (by unfold maxLen; omega) (by omega) (by simp; omega) _ rfl ?_; intro g2 cap2 w2 hown2 hgrow2 _ _; obtain ⟨hv1, hv2, hr2, hk2, hb2⟩ := hL1.b6.appended (by decide) hrow1 (by omega) (by omega) hown2 hgrow2; have hc1 := hv1.cell; have hf1 := hv1.frozen)
              obtain ⟨q1, q2, q3, q4⟩ := HOLD.out
              have bs1 := q2.kept hgr1 (fun e => by have e' : W1.heap.size = gi := Option.some.inj e; omega)
              have bs3 := ((bs1.alloc _).kept hgrow2 (bs1.not_row (by decide) hrow1)).other (B' := w.heap.size + 1 + 1) (by omega) (.slice (some ⟨g2, 0, none⟩) (opn.length + 1) cap2)
              have hkW := (KeepsOthers.of_grownBy hgr1 (fun j o e hj => by
                cases e
                rcases hset.own.2 with ⟨e, _⟩ | ⟨g', cap', cur, e, _, hg, _⟩
                · cases e
                · simp only [Value.slice.injEq, Option.some.injEq, Addr.mk.injEq] at e
                  rw [e.1.1, hg] at hj; cases hj; rfl)).trans hk2
              have hel : (opn ++ [y]).length = opn.length + 1 := by simp
              refine ⟨hkW.from _, ⟨(below_of_grown hgr1 (by omega) (fun r e => by cases e; exact hgi)).trans (hb2.mono (by omega)), fun u hu => ?_⟩, addS ws1' y, opn ++ [y], g2, cap2, ⟨?_, ?_, ?_, ?_, ?_⟩, bs3, q3.trans (hkW.from _), q4.push hN hcl h5 ⟨d, hdm, hby, hdy⟩ hyN hiy, by rw [inS_add hyw, h5]; rfl, fun e he hb z hz => ?_⟩
              · rw [q2.cell] at hu; cases hu; exact bs3.cell
              · exact (hb2.block w.heap.size (by omega)).trans hL1.b4
              · rw [hel]; exact hv2
              · exact hL1.set.below hb2 (fun g' e => by have e' : gi = g' := Option.some.inj e; omega)
              · rw [hel, show nats (opn ++ [y]) = nats opn ++ [.int .i64 (y : Int)] by simp [nats]]; exact hr2
              · exact grown_below hL1.gr (by omega) hb2
              · rw [inS_add hyw]
                rcases List.mem_append.1 he with he | he
                · rw [HPRE.out e he hb z hz]; rfl
                · rw [List.mem_singleton] at he
                  subst he
                  have h1 : (y : Int) = z := hdy.symm.trans hz
                  have h2 : y = z := by omega
                  simp [h2]
          · have hbe : (d.by_ == -1) = false := by rw [beq_eq_false_iff_ne]; exact hby
            gi_wp2
            refine ⟨trivial, ?_⟩
            gi_wp2
            obtain ⟨q1, q2, q3, q4⟩ := HOLD.out
            refine ⟨KeepsFrom.refl _ _, Kp0, ws1', opn, go', co', q1, q2, q3, q4, h5, fun e he hb z hz => ?_⟩
            rcases List.mem_append.1 he with he | he
            · exact HPRE.out e he hb z hz
            · rw [List.mem_singleton] at he
              subst he
              exact absurd hb hby
        case done =>
          rintro D xs W hD hxs ⟨ws1', opn, go', co', h1, h2, h3, h4, h5, h6⟩ hK
          gi_wp2
          refine ⟨m - 1, by omega, ws1', opn, go', co', D :: Ds, _, _, _, _, _, _, _, _, _, _, _, _, _, _, _, _, _, _, rfl, h1, h4.shut (fun y hy => ?_), by omega, ?_, fun D' h' => ?_⟩
          · obtain ⟨d, hd, hb, hdy⟩ := hy
            rw [← hxs] at hd
            obtain ⟨d', hd', rfl⟩ := List.mem_map.1 hd
            exact h6 d' hd' hb y hdy
          · refine List.nodup_cons.2 ⟨fun hm => ?_, hDn⟩
            have := (Array.getElem?_eq_some_iff.1 (hD2 D hm).2).1
            omega
          · rcases List.mem_cons.1 h' with rfl | h'
            · exact ⟨by omega, hK⟩
            · exact ⟨(hD2 D' h').1, h3.same D' _ (Nat.zero_le _) (hD2 D' h').2 rfl⟩
        case stop =>
          rintro D c pre W _ _ h _
          exact h.elim
end Go.Proofs.YtfemboojdablhaaGreatDoor
