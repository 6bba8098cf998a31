import Derived.Test.YtfemboojdablhaaGreatDoorMi03
namespace Go.Proofs.YtfemboojdablhaaGreatDoor
open Go.RowKit Go.Shelf
attribute [local go_sem] Oper.semAt_some
def ByD (sets : List (List Nat)) (c : Nat) (d : WayD) : Prop := ∃ (j : Nat) (bs : List Nat), d.by_ = (j : Int) ∧ sets[j]? = some bs ∧ inS bs c = true
def SWay (ch : Nat → List WayD) (sets : List (List Nat)) (c k z : Nat) : Prop := ∃ d ∈ ch k, ByD sets c d ∧ d.to = (z : Int)
structure Stp (ch : Nat → List WayD) (ws2 : List Nat) (P : Nat → Prop) (ws : List Nat) : Prop where
  len : ws.length = ws2.length
  cl : ClosedS ch ws
  all : ∀ y, inS ws y = true ↔ inS ws2 y = true ∨ ∃ z, P z ∧ ERch ch z y
theorem Stp.iff {ch : Nat → List WayD} {ws2 : List Nat} {P P' : Nat → Prop} {ws : List Nat} (h : Stp ch ws2 P ws) (hp : ∀ z, P z ↔ P' z) : Stp ch ws2 P' ws := by
  refine ⟨h.len, h.cl, fun y => (h.all y).trans ?_⟩
  constructor
  · rintro (h | ⟨z, h1, h2⟩)
    · exact .inl h
    · exact .inr ⟨z, (hp z).1 h1, h2⟩
  · rintro (h | ⟨z, h1, h2⟩)
    · exact .inl h
    · exact .inr ⟨z, (hp z).2 h1, h2⟩
theorem Stp.more {ch : Nat → List WayD} {ws2 : List Nat} {P P' : Nat → Prop} {ws ws' : List Nat} {z : Nat} (h : Stp ch ws2 P ws) (hr : Reached ch z ws ws') (hp : ∀ y, P' y ↔ P y ∨ y = z) : Stp ch ws2 P' ws' := by
  refine ⟨hr.len.trans h.len, hr.cl, fun y => (hr.all y).trans ?_⟩
  constructor
  · rintro (h1 | h1)
    · rcases (h.all y).1 h1 with h2 | ⟨x, h2, h3⟩
      · exact .inl h2
      · exact .inr ⟨x, (hp x).2 (.inl h2), h3⟩
    · exact .inr ⟨z, (hp z).2 (.inr rfl), h1⟩
  · rintro (h1 | ⟨x, h2, h3⟩)
    · exact .inl ((h.all y).2 (.inl h1))
    · rcases (hp x).1 h2 with h2 | rfl
      · exact .inl ((h.all y).2 (.inr ⟨x, h2, h3⟩))
      · exact .inr h3
theorem Stp.start {ch : Nat → List WayD} {ws2 : List Nat} {P : Nat → Prop} (hcl : ClosedS ch ws2) (hP : ∀ z, ¬ P z) : Stp ch ws2 P ws2 := by
  refine ⟨rfl, hcl, fun y => ⟨.inl, fun h => ?_⟩⟩
  rcases h with h | ⟨z, h, _⟩
  · exact h
  · exact absurd h (hP z)
def BytesAt (n₀ : Nat) (W : World) (b : Nat) (sets : List (List Nat)) : Prop := ∀ (j : Nat) (bs : List Nat), sets[j]? = some bs → ∃ (gy cy : Nat) (v : Value), gy < n₀ ∧ W.cell? ⟨b, 2, none⟩ = some (.slice (some ⟨gy, 0, none⟩) sets.length cy) ∧ W.cell? ⟨gy, j, none⟩ = some v ∧ SetRow 0 W v bs ∧ bs.length = 4 ∧ ∀ g, v.ownBlock = some g → g < n₀
theorem BytesAt.below {n₀ : Nat} {W W' : World} {b : Nat} {sets : List (List Nat)} (h : BytesAt n₀ W b sets) (hbl : b < n₀) (hb : Below n₀ W W') : BytesAt n₀ W' b sets := by
  intro j bs hj
  obtain ⟨gy, cy, v, h1, h2, h3, h4, h5, h6⟩ := h j bs hj
  exact ⟨gy, cy, v, h1, (hb.cell (p := ⟨b, 2, none⟩) hbl).trans h2, (hb.cell (p := ⟨gy, j, none⟩) h1).trans h3, h4.below hb h6, h5, h6⟩
theorem TabW.below {n₀ : Nat} {W W' : World} (h : TabW W) (hp : 11 < n₀) (hb : Below n₀ W W') : TabW W' := fun j hj => (hb.cell (p := ⟨11, j, none⟩) hp).trans (h j hj)
theorem SetRow.far {B : Nat} {W W' : World} {v : Value} {ws : List Nat} {row : Option Nat} (h : SetRow B W v ws) (hg : W.grownBy W' row) (hne : v.ownBlock ≠ row) : SetRow B W' v ws := ⟨h.own.kept hg (.inr hne), h.lim⟩
structure SLoop (w : World) (b g2 c2 n2 c : Nat) (W : World) : Prop where
  b4 : Boxed W w.heap.size 231 (.pointer (some ⟨b, 0, none⟩))
  b6 : Boxed W (w.heap.size + 1) 246 (.slice (some ⟨g2, 0, none⟩) n2 c2)
  b7 : Boxed W (w.heap.size + 1 + 1) 5 (.int .u8 (c : Int))
  gr : w.grownBy W (some g2)
theorem SLoop.of_grown {w : World} {b g2 c2 n2 c : Nat} {W W' : World} {row : Option Nat} (h : SLoop w b g2 c2 n2 c W) (hg : W.grownBy W' row) (hr : ∀ r, row = some r → (r = g2 ∧ g2 < w.heap.size) ∨ (w.heap.size + 3 ≤ r)) : SLoop w b g2 c2 n2 c W' := by
  have hne : ∀ k, w.heap.size ≤ k → k < w.heap.size + 3 → some k ≠ row := fun k h1 h2 e => by
    rcases hr k e.symm with ⟨h3, h4⟩ | h3 <;> omega
  exact ⟨h.b4.kept hg (hne _ (by omega) (by omega)), h.b6.kept hg (hne _ (by omega) (by omega)), h.b7.kept hg (hne _ (by omega) (by omega)),
    ⟨hg.os.trans h.gr.os, hg.tape.trans h.gr.tape, hg.output.trans h.gr.output, Nat.le_trans h.gr.size hg.size, fun k hk hk2 => (hg.block k (Nat.lt_of_lt_of_le hk h.gr.size) (fun e => by
      rcases hr k e.symm with ⟨h3, h4⟩ | h3
      · exact hk2 (by rw [h3])
      · omega)).trans (h.gr.block k hk hk2)⟩⟩
theorem grown_drewN (A : World) (k : Nat) : A.grownBy (A.drewN k) none := ⟨rfl, rfl, rfl, Nat.le_refl _, fun _ _ _ => rfl⟩
set_option maxRecDepth 100000 in
set_option maxHeartbeats 8000000 in
theorem step_any (n₀ b g cap c : Nat) (wv v1 v2 : Value) (outs : List Int) (ways : List WayD) (sets : List (List Nat)) (ch : Nat → List WayD) (ws1 ws2 : List Nat) (w : World) (hG : GraphAt n₀ w b g cap wv outs ways) (hY : BytesAt n₀ w b sets) (hT : TabW w) (hn1 : 11 < n₀) (hn₀ : n₀ ≤ w.heap.size)
    (hch : ∀ x, x < outs.length → ∃ o, outs[x]? = some o ∧ ChainIs ways o (ch x)) (hV : ∀ x, x < outs.length → ∀ d ∈ ch x, ∃ y : Nat, d.to = (y : Int) ∧ y < outs.length) (hB : ∀ x, x < outs.length → ∀ d ∈ ch x, d.by_ = -1 ∨ ∃ j : Nat, d.by_ = (j : Int) ∧ j < sets.length)
    (hs1 : SetRow n₀ w v1 ws1) (hs2 : SetRow n₀ w v2 ws2) (hne : v1.ownBlock ≠ v2.ownBlock) (hp1 : 0 < ws1.length) (hb1 : ws1.length ≤ 10000000) (hN : outs.length ≤ ws2.length * 64) (hNb : outs.length ≤ 100000000) (hp2 : 0 < ws2.length) (hcl : ClosedS ch ws2) (hin : ∀ k, inS ws1 k = true → k < outs.length) (hc : c < 256) :
    Calls Tryz.prog 210 #[.pointer (some ⟨b, 0, none⟩), v1, v2, .int .u8 (c : Int)] w fun e W' => e = .returned (.tuple #[]) ∧ ∃ ws', SetRow n₀ W' v2 ws' ∧ Stp ch ws2 (fun z => ∃ k, inS ws1 k = true ∧ SWay ch sets c k z) ws' ∧ w.grownBy W' v2.ownBlock := by
  obtain ⟨g1, c1, rfl, hg1, hgl1⟩ := hs1.form hp1
  obtain ⟨g2, c2, rfl, hg2, hgl2⟩ := hs2.form hp2
  have hne' : g1 ≠ g2 := fun e => hne (by rw [e]; rfl)
  refine (callsIn_wide (n := 12)).1 ?_
  refine callsIn_of_wp_marks Tryz.func210 rfl trivial ?_ rfl
  simp only [Tryz.ntmps210, List.size_toArray, List.length_cons, List.length_nil, Nat.reduceAdd, Nat.reduceSub, Array.replicate_succ, Array.replicate_zero, List.push_toArray, List.append_toArray, List.nil_append, List.cons_append]
  gi_wp2
  have hS0 : SLoop w b g2 c2 ws2.length c (((w.alloc (.cells #[.pointer (some ⟨b, 0, none⟩)] 231)).alloc (.cells #[.slice (some ⟨g2, 0, none⟩) ws2.length c2] 246)).alloc (.cells #[.int .u8 (c : Int)] 5)) := by
    have q4 := ((Boxed.new w 231 (.pointer (some ⟨b, 0, none⟩))).alloc (.cells #[.slice (some ⟨g2, 0, none⟩) ws2.length c2] 246)).alloc (.cells #[.int .u8 (c : Int)] 5)
    have q6 := (Boxed.new (w.alloc (.cells #[.pointer (some ⟨b, 0, none⟩)] 231)) 246 (.slice (some ⟨g2, 0, none⟩) ws2.length c2)).alloc (.cells #[.int .u8 (c : Int)] 5)
    have q7 := Boxed.new ((w.alloc (.cells #[.pointer (some ⟨b, 0, none⟩)] 231)).alloc (.cells #[.slice (some ⟨g2, 0, none⟩) ws2.length c2] 246)) 5 (.int .u8 (c : Int))
    simp only [World.size_alloc] at q6 q7
    exact ⟨q4, q6, q7, grown_trans (grown_trans (World.grownBy_alloc _ _ _) (World.grownBy_alloc _ _ _)) (World.grownBy_alloc _ _ _)⟩
  have hsz0 : (((w.alloc (.cells #[.pointer (some ⟨b, 0, none⟩)] 231)).alloc (.cells #[.slice (some ⟨g2, 0, none⟩) ws2.length c2] 246)).alloc (.cells #[.int .u8 (c : Int)] 5)).heap.size = w.heap.size + 3 := by simp
  obtain ⟨W0, hW0⟩ : ∃ W0, ((w.alloc (.cells #[.pointer (some ⟨b, 0, none⟩)] 231)).alloc (.cells #[.slice (some ⟨g2, 0, none⟩) ws2.length c2] 246)).alloc (.cells #[.int .u8 (c : Int)] 5) = W0 := ⟨_, rfl⟩
  have hs20 : SetRow n₀ W0 (.slice (some ⟨g2, 0, none⟩) ws2.length c2) ws2 := by
    rw [← hW0]
    exact hs2.below ((((Below.refl w.heap.size w).alloc (Nat.le_refl _) _).alloc (by simp) _).alloc (by simp; omega) _) (fun g' e => by have e' : g2 = g' := Option.some.inj e; omega)
  rw [hW0] at hS0 hsz0 ⊢
  clear hW0
  have hbel : ∀ W, SLoop w b g2 c2 ws2.length c W → Below n₀ w W := fun W h => below_of_grown h.gr hn₀ (fun r e => by cases e; exact hg2)
  refine range_hands (gf := 245) (ba := #[.slice (some ⟨g1, 0, none⟩) ws1.length c1]) rfl (enters_of Tryz.func245 (by kernel_rfl) rfl) (each_hands n₀ (12 - 1) (by decide) _ ws1 hp1 hb1)
    (fun pre W => SLoop w b g2 c2 ws2.length c W ∧ ∃ ws', SetRow n₀ W (.slice (some ⟨g2, 0, none⟩) ws2.length c2) ws' ∧ Stp ch ws2 (fun z => ∃ k ∈ pre, SWay ch sets c k z) ws') ?hI ?hRd
    ⟨hS0, ws2, hs20, Stp.start hcl (fun z h => by obtain ⟨k, hk, _⟩ := h; cases hk)⟩
    (fun x => { tmps := #[.pointer (some ⟨b, 0, none⟩), .slice (some ⟨g1, 0, none⟩) ws1.length c1, .slice (some ⟨g2, 0, none⟩) ws2.length c2, .int .u8 (c : Int), .pointer (some ⟨w.heap.size, 0, none⟩), undef, .pointer (some ⟨w.heap.size + 1, 0, none⟩), .pointer (some ⟨w.heap.size + 1 + 1, 0, none⟩), .int .i64 (x : Int), undef,
      .slice (some ⟨g1, 0, none⟩) ws1.length c1, .func (.func 245) #[.slice (some ⟨g1, 0, none⟩) ws1.length c1] #[], .int .i64 (x : Int), undef, undef, undef, undef, undef, undef, undef, undef, undef, undef, undef, undef, undef, undef, undef, undef, undef, undef, undef, undef, undef, undef, undef, undef, undef], defers := [] }) ?assign ?body ?done
  case hI =>
    rintro pre A A' row ⟨h1, ws', h2, h3⟩ hg hr
    exact ⟨h1.of_grown hg (fun r e => .inr (by have := (hr r e).1; omega)), ws', ⟨ownsRow_keptN h2.own hg (fun r e => (hr r e).2), h2.lim⟩, h3⟩
  case hRd =>
    rintro pre A ⟨h1, ws', h2, h3⟩
    exact ⟨hs1.far h1.gr (fun e => hne' (Option.some.inj e)), hT.below hn1 (hbel A h1)⟩
  case assign =>
    intro l x W K hK
    gi_wp2
    exact hK
  case done =>
    rintro D W hD ⟨h1, ws', h2, h3⟩ hK
    gi_wp2
    refine ⟨by simp, .inl ⟨_, _, rfl, run_takeDeferred hK, ?_⟩⟩
    have hp := grownBy_putObj' W D (.deferred none)
    refine ⟨_, results_none rfl _ _ _, rfl, ws', ⟨ownsRow_putObj h2.own _ hK rfl, h2.lim⟩, h3.iff (fun z => ?_), ?_⟩
    · constructor
      · rintro ⟨k, hk, h⟩; exact ⟨k, (els_in hs1.lim k).1 hk, h⟩
      · rintro ⟨k, hk, h⟩; exact ⟨k, (els_in hs1.lim k).2 hk, h⟩
    · have hgr := h1.gr
      exact ⟨hp.os.trans hgr.os, hp.tape.trans hgr.tape, hp.output.trans hgr.output, Nat.le_trans hgr.size hp.size, fun j hj hne => (hp.block j (Nat.lt_of_lt_of_le hj hgr.size) (fun e => by cases e; omega)).trans (hgr.block j hj hne)⟩
  case body =>
    rintro l pre x W hl ⟨r, hr⟩ hpre ⟨h1, ws', h2, h3⟩
    have hxN : x < outs.length := hin x ((els_in hs1.lim x).1 (hpre.subset (by simp)))
    have k4 := h1.b4.cell
    gi_wp2_with (refine ⟨trivial, ?_⟩; gi_at_call 202; refine (CallsIn.inRound l (callsIn_wide.2 (from_any b x _))).mono ?_; rintro e w' ⟨rfl, rfl⟩)
    have hsW : w.heap.size + 3 ≤ W.heap.size := h1.b7.lt
    have bs := (Boxed.new W 231 (.pointer (some ⟨b, 0, none⟩))).alloc (.cells #[.int .i64 (x : Int)] 3)
    have bk := Boxed.new (W.alloc (.cells #[.pointer (some ⟨b, 0, none⟩)] 231)) 3 (.int .i64 (x : Int))
    rw [World.size_alloc] at bk
    have h1' : SLoop w b g2 c2 ws2.length c ((W.alloc (.cells #[.pointer (some ⟨b, 0, none⟩)] 231)).alloc (.cells #[.int .i64 (x : Int)] 3)) := (h1.of_grown (World.grownBy_alloc _ _ none) (fun r e => by cases e)).of_grown (World.grownBy_alloc _ _ none) (fun r e => by cases e)
    have h2' : SetRow n₀ ((W.alloc (.cells #[.pointer (some ⟨b, 0, none⟩)] 231)).alloc (.cells #[.int .i64 (x : Int)] 3)) (.slice (some ⟨g2, 0, none⟩) ws2.length c2) ws' := ⟨(h2.own.alloc _).alloc _, h2.lim⟩
    have hr' : ((W.alloc (.cells #[.pointer (some ⟨b, 0, none⟩)] 231)).alloc (.cells #[.int .i64 (x : Int)] 3)).heap[l]? = some (.loop r) := (KeepsOthers.alloc _ _).same l _ ((KeepsOthers.alloc _ _).same l _ hr rfl) rfl
    have hK0 : KeepsFrom 0 W ((W.alloc (.cells #[.pointer (some ⟨b, 0, none⟩)] 231)).alloc (.cells #[.int .i64 (x : Int)] 3)) := ((KeepsOthers.alloc _ _).trans (KeepsOthers.alloc _ _)).from _
    have hsz2 : ((W.alloc (.cells #[.pointer (some ⟨b, 0, none⟩)] 231)).alloc (.cells #[.int .i64 (x : Int)] 3)).heap.size = W.heap.size + 2 := by simp
    obtain ⟨W2, hW2⟩ : ∃ W2, (W.alloc (.cells #[.pointer (some ⟨b, 0, none⟩)] 231)).alloc (.cells #[.int .i64 (x : Int)] 3) = W2 := ⟨_, rfl⟩
    rw [hW2] at bs bk h1' h2' hr' hK0 hsz2 ⊢
    clear hW2
    have hG2 := hG.below (hbel W2 h1')
    obtain ⟨o, ho, hco⟩ := hch x hxN
    refine wpIn_rangeFunc_ownN (l₀ := l) (r₀ := r) rfl hr' (by decide) (gf := 235) (lb := #[.pointer (some ⟨W.heap.size, 0, none⟩), .pointer (some ⟨W.heap.size + 1, 0, none⟩)]) rfl trivial (enters_of Tryz.func235 (by kernel_rfl) rfl)
      ((from_stops Fence.wide (12 - 1 - 1 - 1) trivial rfl (by decide) W.heap.size (W.heap.size + 1) b g cap wv x outs ways (ch x) o ho hco (fun d => ∃ y : Nat, d.to = (y : Int) ∧ y < outs.length ∧ (d.by_ = -1 ∨ ∃ j : Nat, d.by_ = (j : Int) ∧ j < sets.length)) (fun d hd => by obtain ⟨y, h1, h2⟩ := hV x hxN d hd; exact ⟨y, h1, h2, hB x hxN d hd⟩)
        (fun A B => Below n₀ A B ∧ ∀ u, A.cell? ⟨W.heap.size, 0, none⟩ = some u → B.cell? ⟨W.heap.size, 0, none⟩ = some u) ?hKp W2 ?hat).inRound l) ?hKt ?hKb (Below.refl _ _) (fun _ => rfl)
      (fun pre' A => SLoop w b g2 c2 ws2.length c A ∧ Boxed A W.heap.size 231 (.pointer (some ⟨b, 0, none⟩)) ∧ KeepsFrom 0 W A ∧ ∃ ws', SetRow n₀ A (.slice (some ⟨g2, 0, none⟩) ws2.length c2) ws' ∧ Stp ch ws2 (fun z => (∃ k ∈ pre, SWay ch sets c k z) ∨ ∃ d ∈ pre', ByD sets c d.1 ∧ d.1.to = (z : Int)) ws')
      (fun _ _ _ => False)
      ?hI2 (fun _ _ _ _ _ hs _ _ => hs) ⟨h1', bs, hK0, ws', h2', h3.iff (fun z => ⟨.inl, fun h => by rcases h with h | ⟨d, hd, _⟩ <;> first | exact h | cases hd⟩)⟩
      (fun d a' A => ∃ Bx : Nat, A.heap[Bx]? = some (Obj.cells #[.int .i64 d.1.to, .int .i64 d.1.by_, .int .i64 d.1.then_] 290 (0, 0)) ∧ a' = { tmps := #[.pointer (some ⟨b, 0, none⟩), .slice (some ⟨g1, 0, none⟩) ws1.length c1, .slice (some ⟨g2, 0, none⟩) ws2.length c2, .int .u8 (c : Int), .pointer (some ⟨w.heap.size, 0, none⟩), undef, .pointer (some ⟨w.heap.size + 1, 0, none⟩), .pointer (some ⟨w.heap.size + 1 + 1, 0, none⟩), .int .i64 (x : Int), .pointer (some ⟨Bx, 0, none⟩),
        .slice (some ⟨g1, 0, none⟩) ws1.length c1, .func (.func 245) #[.slice (some ⟨g1, 0, none⟩) ws1.length c1] #[], .int .i64 (x : Int), .pointer (some ⟨b, 0, none⟩), .int .i64 (x : Int), .func (.func 235) #[] #[.pointer (some ⟨W.heap.size, 0, none⟩), .pointer (some ⟨W.heap.size + 1, 0, none⟩)], .agg #[.int .i64 d.1.to, .int .i64 d.1.by_, .int .i64 d.1.then_], undef, undef, undef, undef, undef, undef, undef, undef, undef, undef, undef, undef, undef, undef, undef, undef, undef, undef, undef, undef, undef], defers := [] })
      ?hAx ?assign2 ?body2 ?done2 ?stop2
    case hKp =>
      rintro A B ⟨q1, q2⟩ h
      refine ⟨q2 _ h.bs, (q1.cell (p := ⟨b, 1, none⟩) hG.bl).trans h.b1, fun i d hd => ?_⟩
      obtain ⟨gw, cw, e, e1, e2, e3⟩ := h.way i d hd
      obtain ⟨gw', cw', hl', e', _⟩ := hG.way i d hd
      rw [e] at e'
      cases e'
      exact ⟨gw, cw, e, (q1.cell (p := ⟨gw, _, none⟩) hl').trans e1, (q1.cell (p := ⟨gw, _, none⟩) hl').trans e2, (q1.cell (p := ⟨gw, _, none⟩) hl').trans e3⟩
    case hat =>
      intro A hA
      have hg := hG2.below (hA.mono (show n₀ ≤ W2.heap.size by omega))
      refine ⟨(hA.cell (p := ⟨W.heap.size, 0, none⟩) (by show W.heap.size < _; omega)).trans bs.cell, (hA.cell (p := ⟨W.heap.size + 1, 0, none⟩) (by show W.heap.size + 1 < _; omega)).trans bk.cell, hg.b0, hg.b1, hg.out, fun i d hd => ?_⟩
      obtain ⟨gw, cw, _, e, q⟩ := hg.way i d hd
      exact ⟨gw, cw, e, q⟩
    case hKt =>
      rintro A B C ⟨q1, q2⟩ ⟨q3, q4⟩
      exact ⟨q1.trans q3, fun u hu => q4 u (q2 u hu)⟩
    case hKb =>
      intro A l o o' hl ho hc hw
      refine ⟨belowK_b (w := W2) (by omega) A l o o' hl ho hc hw, fun u hu => ?_⟩
      exact (World.cell?_of_block (World.putObj_heap_other (show W.heap.size ≠ l by omega))).trans hu
    case hI2 =>
      rintro pre' A A' row ⟨q1, q2, q3, ws'', q4, q5⟩ hg hr
      exact ⟨q1.of_grown hg (fun r e => .inr (by have := (hr r e).1; omega)), cells_kept q2 hg (fun r e => (hr r e).2), ownFrom_keepsFrom (β := Unit) (show W.heap.size ≤ W2.heap.size by omega) () A A' row q3 hg hr, ws'', ⟨ownsRow_keptN q4.own hg (fun r e => (hr r e).2), q4.lim⟩, q5⟩
    case hAx =>
      rintro d a' _ A A' row ⟨Bx, q1, q2⟩ hg hr
      exact ⟨Bx, cells_kept q1 hg (fun r e => (hr r e).2), q2⟩
    case assign2 =>
      rintro l2 pre' d A K ⟨q1, q2, q3, ws'', q4, q5⟩ hK
      have hsA : W.heap.size < A.heap.size := q2.lt
      dsimp only [encW]
      gi_wp2
      refine hK _ _ ((KeepsOthers.alloc _ _).from _) ⟨(Below.refl _ A).alloc (by omega) _, fun u hu => ?_⟩ ⟨q1.of_grown (World.grownBy_alloc _ _ none) (fun r e => by cases e), q2.alloc _, q3.trans ((KeepsOthers.alloc _ _).from _), ws'', ⟨q4.own.alloc _, q4.lim⟩, q5⟩ ⟨A.heap.size, World.alloc_heap_new A _, rfl⟩
      exact (((Below.refl A.heap.size A).alloc (Nat.le_refl _) _).cell (p := ⟨W.heap.size, 0, none⟩) hsA).trans hu
    case body2 =>
      rintro l2 pre' d a' A hl2 ⟨r2, hr2⟩ ⟨q1, q2, q3, ws'', q4, q5⟩ ⟨Bx, hBx, rfl⟩ hlt
      obtain ⟨d, y, hdy, hyN, hby⟩ := d
      dsimp only at hBx ⊢
      have cb0 : A.cell? ⟨Bx, 0, none⟩ = some (.int .i64 d.to) := by simp [World.cell?, hBx]
      have cb1 : A.cell? ⟨Bx, 1, none⟩ = some (.int .i64 d.by_) := by simp [World.cell?, hBx]
      rw [hdy] at cb0
      have c4 := q1.b4.cell
      have c6 := q1.b6.cell
      have c7 := q1.b7.cell
      have hGA := hG.below (hbel A q1)
      have hYA := hY.below hG.bl (hbel A q1)
      have HOLD : Hid (SLoop w b g2 c2 ws2.length c A ∧ Boxed A W.heap.size 231 (.pointer (some ⟨b, 0, none⟩)) ∧ KeepsFrom 0 W A) := ⟨q1, q2, q3⟩
      have Kp0 : Below n₀ A A ∧ ∀ u, A.cell? ⟨W.heap.size, 0, none⟩ = some u → A.cell? ⟨W.heap.size, 0, none⟩ = some u := ⟨Below.refl _ _, fun u hu => hu⟩
      clear q1 q2 q3
      rcases hby with hby | ⟨j, hby, hjl⟩
      · have hbe : (d.by_ != -1) = false := by rw [hby]; rfl
        gi_wp2
        refine region_quiet_round (F := Fence.wide) rfl l2 (by kernel_rfl) (by kernel_rfl) (by kernel_rfl) ?_
        repeat (first | gi_big_quiet_step (fail) | (refine BigFrame.wpQuietIn_skip (fun _ _ _ _ => trivial) rfl ?_; dsimp only [Act.put]; simp only [List.setIfInBounds_toArray, List.set_cons_succ, List.set_cons_zero]))
        refine wpQuietIn_nil ?_
        intro _ hw'
        obtain ⟨nq, rfl⟩ := hw'
        gi_wp2
        obtain ⟨q1, q2, q3⟩ := HOLD.out
        have hdr := grown_drewN A nq
        refine ⟨⟨hdr.size, fun k o _ hk _ => hk⟩, ⟨below_of_grown hdr (by have := q2.lt; omega) (fun r e => by cases e), fun u hu => hu⟩, q1.of_grown hdr (fun r e => by cases e), q2.kept hdr (fun e => by cases e), q3.trans ⟨hdr.size, fun k o _ hk _ => hk⟩, ws'', ⟨q4.own.kept hdr (.inr (fun e => by cases e)), q4.lim⟩, q5.iff (fun z => ?_)⟩
        refine or_congr Iff.rfl ⟨fun ⟨e, he, h⟩ => ⟨e, by simp [he], h⟩, fun ⟨e, he, h⟩ => ?_⟩
        rcases List.mem_append.1 he with he | he
        · exact ⟨e, he, h⟩
        · rw [List.mem_singleton] at he
          subst he
          obtain ⟨⟨j, bs, hj, _⟩, _⟩ := h
          rw [hby] at hj
          omega
      · have hbe : (d.by_ != -1) = true := by rw [hby]; simp
        obtain ⟨bs, hbs⟩ : ∃ bs, sets[j]? = some bs := ⟨_, List.getElem?_eq_getElem hjl⟩
        obtain ⟨gy, cy, vj, hgy, e2, ej, hsj, hl4, hvb⟩ := hYA j bs hbs
        obtain ⟨gv, cv, rfl, _, _⟩ := hsj.form (by omega)
        rw [hl4] at ej hsj
        rw [hby] at cb1
        have hjI : ((j : Int) < (sets.length : Int)) := by omega
        have HS : ∀ k, SetRow 0 (A.drewN k) (.slice (some ⟨gv, 0, none⟩) 4 cv) bs := fun k => ⟨hsj.own.kept (grown_drewN A k) (.inr (fun e => by cases e)), hsj.lim⟩
        have hcw : c / 64 < bs.length := by omega
        have hxj : ((j : Int) != -1) = true := by simp
        cases hic : inS bs c with
        | false =>
          gi_wp2
          refine region_quiet_round (F := Fence.wide) rfl l2 (by kernel_rfl) (by kernel_rfl) (by kernel_rfl) ?_
          repeat (gi_big_quiet_step (fail))
          refine BigFrame.wpQuietIn_want (fun _ _ _ _ => trivial) rfl (fun K hK => ?_)
          gi_big_quiet_op
          refine ⟨.bool false, fun q => CallsIn.quiet_of_same (callsIn_wide.2 ?_), hK _ ?_⟩
          · have := has_any c _ (HS q) hcw (by omega)
            rw [hic] at this
            exact this
          clear hK K
          repeat (gi_big_quiet_step (fail))
          refine wpQuietIn_nil ?_
          intro _ hw'
          obtain ⟨nq, rfl⟩ := hw'
          gi_wp2
          obtain ⟨q1, q2, q3⟩ := HOLD.out
          have hdr := grown_drewN A nq
          refine ⟨⟨hdr.size, fun k o _ hk _ => hk⟩, ⟨below_of_grown hdr (by have := q2.lt; omega) (fun r e => by cases e), fun u hu => hu⟩, q1.of_grown hdr (fun r e => by cases e), q2.kept hdr (fun e => by cases e), q3.trans ⟨hdr.size, fun k o _ hk _ => hk⟩, ws'', ⟨q4.own.kept hdr (.inr (fun e => by cases e)), q4.lim⟩, q5.iff (fun z => ?_)⟩
          refine or_congr Iff.rfl ⟨fun ⟨e, he, h⟩ => ⟨e, by simp [he], h⟩, fun ⟨e, he, h⟩ => ?_⟩
          rcases List.mem_append.1 he with he | he
          · exact ⟨e, he, h⟩
          · rw [List.mem_singleton] at he
            subst he
            obtain ⟨⟨j', bs', hj', hb', hin'⟩, _⟩ := h
            dsimp only at hj'
            rw [hby] at hj'
            have e1 : j = j' := by omega
            subst e1
            rw [hbs] at hb'
            cases hb'
            rw [hic] at hin'
            cases hin'
        | true =>
          gi_wp2
          refine region_quiet_round (F := Fence.wide) rfl l2 (by kernel_rfl) (by kernel_rfl) (by kernel_rfl) ?_
          repeat (gi_big_quiet_step (fail))
          refine BigFrame.wpQuietIn_want (fun _ _ _ _ => trivial) rfl (fun K hK => ?_)
          gi_big_quiet_op
          refine ⟨.bool true, fun q => CallsIn.quiet_of_same (callsIn_wide.2 ?_), hK _ ?_⟩
          · have := has_any c _ (HS q) hcw (by omega)
            rw [hic] at this
            exact this
          clear hK K
          repeat (gi_big_quiet_step (fail))
          refine wpQuietIn_nil ?_
          intro _ hw'
          obtain ⟨nq, rfl⟩ := hw'
          have hdr := grown_drewN A nq
          obtain ⟨q1, q2, q3⟩ := HOLD.out
          have q1d := q1.of_grown hdr (fun r e => by cases e)
          have q2d := q2.kept hdr (fun e => by cases e)
          have q3d : KeepsFrom 0 W (A.drewN nq) := q3.trans ⟨hdr.size, fun k o _ hk _ => hk⟩
          have q4d : SetRow n₀ (A.drewN nq) (.slice (some ⟨g2, 0, none⟩) ws2.length c2) ws'' := ⟨q4.own.kept hdr (.inr (fun e => by cases e)), q4.lim⟩
          have hGd := hG.below (hbel _ q1d)
          have cb0' : (A.drewN nq).cell? ⟨Bx, 0, none⟩ = some (.int .i64 (y : Int)) := cb0
          have c4' := q1d.b4.cell
          have c6' := q1d.b6.cell
          have hnA : n₀ ≤ (A.drewN nq).heap.size := by have := q2d.lt; omega
          have Kpd : Below n₀ A (A.drewN nq) := below_of_grown hdr (by have := q2.lt; omega) (fun r e => by cases e)
          have Kfd : KeepsFrom W2.heap.size A (A.drewN nq) := ⟨hdr.size, fun k o _ hk _ => hk⟩
          have Kcd : ∀ u, A.cell? ⟨W.heap.size, 0, none⟩ = some u → (A.drewN nq).cell? ⟨W.heap.size, 0, none⟩ = some u := fun u hu => hu
          have HX : Hid (SLoop w b g2 c2 ws2.length c (A.drewN nq) ∧ Boxed (A.drewN nq) W.heap.size 231 (.pointer (some ⟨b, 0, none⟩)) ∧ KeepsFrom 0 W (A.drewN nq) ∧ Below n₀ A (A.drewN nq) ∧ KeepsFrom W2.heap.size A (A.drewN nq) ∧ ∀ u, A.cell? ⟨W.heap.size, 0, none⟩ = some u → (A.drewN nq).cell? ⟨W.heap.size, 0, none⟩ = some u) := ⟨q1d, q2d, q3d, Kpd, Kfd, Kcd⟩
          have hrch := reach_any n₀ b g cap y wv (.slice (some ⟨g2, 0, none⟩) ws2.length c2) outs ways ch ws'' (A.drewN nq) hGd hnA hch hV q4d (by rw [q5.len]; exact hN) hNb q5.cl hyN
          clear q1 q2 q3 q1d q2d q3d Kpd Kfd Kcd c4 c6 c7 cb0 cb1 HS hdr hGA hYA Kp0 HOLD
          obtain ⟨A1, hA1⟩ : ∃ A1, A.drewN nq = A1 := ⟨_, rfl⟩
          rw [hA1] at HX hrch cb0' c4' c6' q4d ⊢
          clear hA1 hGd hnA
          gi_wp2_with (refine ⟨trivial, ?_⟩; gi_at_call 240; refine (CallsIn.inRound l2 (callsIn_wide.2 hrch)).mono ?_; rintro e A2 ⟨rfl, ws3, hs3, hr3, hg3⟩)
          obtain ⟨q1, q2, q3, q4, q5', q6⟩ := HX.out
          have n2 : some W.heap.size ≠ (Value.slice (some ⟨g2, 0, none⟩) ws2.length c2).ownBlock := fun e => by have e' : W.heap.size = g2 := Option.some.inj e; omega
          have b3 := q2.kept hg3 n2
          have hk3 : KeepsOthers A1 A2 := KeepsOthers.of_grownBy hg3 (fun j o e hj => by
            cases e
            rcases q4d.own.2 with ⟨e, _⟩ | ⟨g', cap', cur, e, _, hg, _⟩
            · cases e
            · simp only [Value.slice.injEq, Option.some.injEq, Addr.mk.injEq] at e
              rw [e.1.1, hg] at hj; cases hj; rfl)
          refine ⟨q5'.trans (hk3.from _), ⟨q4.trans (below_of_grown hg3 (by have := q2.lt; omega) (fun r e => by cases e; exact hg2)), fun u hu => ?_⟩, q1.of_grown hg3 (fun r e => .inl (by cases e; exact ⟨rfl, hgl2⟩)), b3, q3.trans (hk3.from _), ws3, hs3, q5.more hr3 (fun z => ?_)⟩
          · have h1 := q6 u hu
            rw [q2.cell] at h1
            cases h1
            exact b3.cell
          · constructor
            · rintro (h | ⟨e, he, h, hz⟩)
              · exact .inl (.inl h)
              · rcases List.mem_append.1 he with he | he
                · exact .inl (.inr ⟨e, he, h, hz⟩)
                · rw [List.mem_singleton] at he
                  subst he
                  have h1 : (z : Int) = y := hz.symm.trans hdy
                  exact .inr (by omega)
            · rintro ((h | ⟨e, he, h, hz⟩) | rfl)
              · exact .inl h
              · exact .inr ⟨e, by simp [he], h, hz⟩
              · exact .inr ⟨_, List.mem_append.2 (.inr (List.mem_singleton.2 rfl)), ⟨j, bs, hby, hbs, hic⟩, hdy⟩
    case done2 =>
      rintro xs A hxs ⟨q1, q2, q3, ws'', q4, q5⟩
      gi_wp2
      refine ⟨⟨q3.size, fun k o _ hk ho => q3.same k o (Nat.zero_le _) hk ho⟩, ws'', q4, q5.iff (fun z => ?_)⟩
      constructor
      · rintro (h | ⟨d, hd, h, hz⟩)
        · exact .inl h
        · refine .inr ⟨d.1, ?_, h, hz⟩
          rw [← hxs]
          exact List.mem_map.2 ⟨d, hd, rfl⟩
      · rintro (h | ⟨d, hd, h, hz⟩)
        · exact .inl h
        · rw [← hxs] at hd
          obtain ⟨d', hd', rfl⟩ := List.mem_map.1 hd
          exact .inr ⟨d', hd', h, hz⟩
    case stop2 =>
      rintro cc pre' A _ h
      exact h.elim
end Go.Proofs.YtfemboojdablhaaGreatDoor
