/- Merged: WkM, WiA, WiB, WkN. -/
import Derived.Test.YtfemboojdablhaaGreatDoorMi39
import Derived.Laws.EntriesVeiled
import Derived.Test.YtfemboojdablhaaGreatDoorMi36
import Derived.Laws.OwnMore
namespace Go.Proofs.YtfemboojdablhaaGreatDoor.Tre
open Go.RowKit Go.Shelf
variable {L : List NodeD} {c : Cf} {gone nn : Nat} {out : List UInt8} {ab : List Bool} {pv bv tv : Value} {W W' : World}
theorem quest1_any (vb : Nat) (w : World) : Calls Tryz.prog 95 #[.pointer (some ⟨vb, 0, none⟩)] w fun e w' => e = .returned (.bool true) ∧ w' = w := by
  go_enter Tryz.func95, Tryz.ntmps95
  go_wp2
  go_ret
  exact ⟨rfl, rfl⟩
structure JTrue (c : Cf) (kr wb eb : Nat) (D E : Nat → Prop) (w : World) : Prop where
  hkb : w.heap[c.kb]? = some (.cells #[.slice (some ⟨kr, 0, none⟩) 2 2] 97 (0, 0))
  hkr : w.heap[kr]? = some (.cells #[.func (.func 95) #[] #[], .func (.func 70) #[] #[.pointer (some ⟨wb, 0, none⟩), .pointer (some ⟨eb, 0, none⟩)]] 85 (0, 0))
  pr : PrB w c.b wb eb
  nk : ¬ D c.kb
  nr : ¬ D kr
  nw : ¬ D wb
  ne : ¬ D eb
  hE : ∀ k, ¬ E k
theorem jtrue_stab (c : Cf) (kr wb eb : Nat) : Stab (JTrue c kr wb eb) := by
  intro D D' E w w' h hT
  have keep : ∀ k, k < w.heap.size → ¬ D k → w'.heap[k]? = w.heap[k]? ∧ ¬ D' k := fun k hk hd => ⟨hT.block k hk hd, fun q => by rcases hT.new k q with a | a; exact hd a; omega⟩
  have lt : ∀ {k : Nat} {a : Array Value} {t : TypeId} {y : Nat × Nat}, w.heap[k]? = some (.cells a t y) → k < w.heap.size := fun h => (Array.getElem?_eq_some_iff.1 h).1
  obtain ⟨a1, a2⟩ := keep _ (lt h.hkb) h.nk
  obtain ⟨b1, b2⟩ := keep _ (lt h.hkr) h.nr
  obtain ⟨c1, c2⟩ := keep _ (lt h.pr.w) h.nw
  obtain ⟨d1, d2⟩ := keep _ (lt h.pr.e) h.ne
  exact ⟨a1.trans h.hkb, b1.trans h.hkr, ⟨c1.trans h.pr.w, d1.trans h.pr.e⟩, a2, b2, c2, d2, h.hE⟩
set_option maxRecDepth 100000 in
set_option maxHeartbeats 2000000 in
theorem jtrue_wnt (L : List NodeD) (c : Cf) (kr wb eb : Nat) : Wnt L c (fun _ => true) (JTrue c kr wb eb) := by
  intro vb k p d n kv gone nn out ab pv bv tv E w h hj hv hE hn hlen h0
  have c0 : w.cell? ⟨c.kb, 0, none⟩ = some (.slice (some ⟨kr, 0, none⟩) 2 2) := one_cell hj.hkb
  have c1 : w.cell? ⟨kr, 0, none⟩ = some (.func (.func 95) #[] #[]) := by rw [Lib.cell_of_heap hj.hkr]; rfl
  have c2 : w.cell? ⟨kr, 1, none⟩ = some (.func (.func 70) #[] #[.pointer (some ⟨wb, 0, none⟩), .pointer (some ⟨eb, 0, none⟩)]) := by rw [Lib.cell_of_heap hj.hkr]; rfl
  have HP := hide (print1_any wb eb vb k p d n kv w h hj.pr hv hj.nw hj.ne hlen h0)
  have HQ := hide (quest1_any vb w)
  have HJ := hide hj
  clear h hj hv
  go_enter Tryz.func69, Tryz.ntmps69
  go_wp2
  refine wp_loop_rounds 3 ?_
  rw [rounds_succ]
  go_wp2_with fail
  refine HQ.out.mono ?_
  rintro e w1 ⟨rfl, rfl⟩
  go_wp2
  rw [rounds_succ]
  go_wp2_with fail
  refine HP.out.mono ?_
  rintro e w2 ⟨rfl, pv', bv', h2, hT2⟩
  have HX := hide (⟨h2, hT2⟩ : _ ∧ _)
  clear h2 hT2
  go_wp2
  rw [rounds_succ]
  go_wp2
  go_ret
  obtain ⟨h2, hT2⟩ := HX.out
  exact ⟨⟨_, rfl⟩, pv', bv', E, h2, jtrue_stab c kr wb eb _ _ _ _ _ HJ.out hT2, withE hT2⟩
theorem jtrue_asks (L : List NodeD) (c : Cf) (kr wb eb : Nat) (hms : (1000 : Int) ≤ c.ms) : Asks L c (fun _ => true) (JTrue c kr wb eb) :=
  ⟨jtrue_wnt L c kr wb eb, jtrue_stab c kr wb eb, fun _ _ _ h k hk => absurd hk (h.hE k), fun _ _ _ h k hk => absurd hk (h.hE k), hms⟩
set_option maxRecDepth 100000 in
set_option maxHeartbeats 2000000 in
theorem acts_true (w : World) : Calls Tryz.prog 39 #[trueV] w fun e w' => e = .returned (.bool false) ∧ Below w.heap.size w w' := by
  go_enter Tryz.func39, Tryz.ntmps39
  go_wp2
  refine wp_loop_rounds 2 ?_
  rw [rounds_succ]
  go_wp2_with (go_at_call 68; refine (isAction_true _).mono ?_; rintro e w1 ⟨rfl, rfl⟩)
  go_region
  all_goals go_wp2
  all_goals rw [rounds_succ]
  all_goals go_wp2
  all_goals go_ret
  all_goals refine ⟨rfl, ?_⟩
  all_goals (repeat first | exact Below.refl _ _ | refine Below.drew ?_ | refine Below.setCell ?_ (by first | omega | (simp; done) | (simp; omega)) _ | refine Below.alloc ?_ (by first | omega | (simp; done) | (simp; omega)) _)
set_option maxRecDepth 100000 in
set_option maxHeartbeats 2000000 in
theorem wanswers1 (f : Fn) (xs ys : Array Value) (w : World) : Calls Tryz.prog 50 #[.func f xs ys] w fun e w' => (∃ p q : Nat, e = .returned (.func (.func 83) #[] #[.pointer (some ⟨p, 0, none⟩), .pointer (some ⟨q, 0, none⟩)])) ∧ Below w.heap.size w w' := by
  have hmk : ∀ w, (Instr.makeMap 139 none).run Tryz.prog w = .ok (.map (some w.heap.size)) (w.alloc (.map #[] 0)) := fun w => by kernel_rfl
  go_enter Tryz.func50, Tryz.ntmps50
  go_wp2
  go_ret
  refine ⟨⟨_, _, rfl⟩, ?_⟩
  repeat first | exact Below.refl _ _ | refine Below.drew ?_ | refine Below.setCell ?_ (by first | omega | (simp; done) | (simp; omega)) _ | refine Below.alloc ?_ (by first | omega | (simp; done) | (simp; omega)) _
set_option maxRecDepth 100000 in
set_option maxHeartbeats 2000000 in
theorem wanswers2 (f : Fn) (xs ys : Array Value) (w : World) : Calls Tryz.prog 53 #[.func f xs ys] w fun e w' => (∃ p q : Nat, e = .returned (.func (.func 85) #[] #[.pointer (some ⟨p, 0, none⟩), .pointer (some ⟨q, 0, none⟩)])) ∧ Below w.heap.size w w' := by
  have hmk : ∀ w, (Instr.makeMap 144 none).run Tryz.prog w = .ok (.map (some w.heap.size)) (w.alloc (.map #[] 0)) := fun w => by kernel_rfl
  go_enter Tryz.func53, Tryz.ntmps53
  go_wp2
  go_ret
  refine ⟨⟨_, _, rfl⟩, ?_⟩
  repeat first | exact Below.refl _ _ | refine Below.drew ?_ | refine Below.setCell ?_ (by first | omega | (simp; done) | (simp; omega)) _ | refine Below.alloc ?_ (by first | omega | (simp; done) | (simp; omega)) _
set_option maxRecDepth 100000 in
set_option maxHeartbeats 2000000 in
theorem wasker (a : Option Addr) (n c : Nat) (w : World) : Calls Tryz.prog 30 #[.slice a n c] w fun e w' => (∃ p q : Nat, e = .returned (.func (.func 56) #[] #[.pointer (some ⟨p, 0, none⟩), .pointer (some ⟨q, 0, none⟩)])) ∧ Below w.heap.size w w' := by
  obtain ⟨W0, hW0⟩ : ∃ W0, (w.alloc (.cells #[.slice a n c] 31)) = W0 := ⟨_, rfl⟩
  have HB0 : Hid (Below w.heap.size w W0) := by rw [← hW0]; exact (Below.refl _ _).alloc (Nat.le_refl _) _
  go_enter Tryz.func30, Tryz.ntmps30
  go_wp2_with (rw [hW0])
  go_wp2_with fail
  refine (wanswers1 _ _ _ _).mono ?_
  rintro e w1 ⟨⟨p1, q1, rfl⟩, hb1⟩
  have HB1 : Hid (Below w.heap.size w w1) := HB0.out.trans (hb1.mono HB0.out.size)
  clear hb1
  go_wp2_with fail
  refine (wanswers2 _ _ _ _).mono ?_
  rintro e w2 ⟨⟨p2, q2, rfl⟩, hb2⟩
  have hs1 := HB1.out.size
  have HB2 : Hid (Below w.heap.size w w2) := by
    refine Below.trans ?_ (hb2.mono (by simp; omega))
    refine HB1.out.trans ?_
    repeat first | exact Below.refl _ _ | refine Below.drew ?_ | refine Below.setCell ?_ (by first | omega | (simp; done) | (simp; omega)) _ | refine Below.alloc ?_ (by first | omega | (simp; done) | (simp; omega)) _
  have hs2 := HB2.out.size
  clear hb2
  go_wp2
  go_ret
  refine ⟨⟨_, _, rfl⟩, ?_⟩
  refine HB2.out.trans ?_
  repeat first | exact Below.refl _ _ | refine Below.drew ?_ | refine Below.setCell ?_ (by first | omega | (simp; done) | (simp; omega)) _ | refine Below.alloc ?_ (by first | omega | (simp; done) | (simp; omega)) _
set_option maxRecDepth 100000 in
set_option maxHeartbeats 2000000 in
theorem wignored (a : Option Addr) (n c : Nat) (w : World) : Calls Tryz.prog 37 #[.slice a n c] w fun e w' => (∃ p : Nat, e = .returned (.func (.func 60) #[] #[.pointer (some ⟨p, 0, none⟩)])) ∧ Below w.heap.size w w' := by
  go_enter Tryz.func37, Tryz.ntmps37
  go_wp2_with fail
  refine (wasker _ _ _ _).mono ?_
  rintro e w1 ⟨⟨p1, q1, rfl⟩, hb1⟩
  have HB1 := hide hb1
  clear hb1
  go_wp2_with fail
  refine (wanswers2 _ _ _ _).mono ?_
  rintro e w2 ⟨⟨p2, q2, rfl⟩, hb2⟩
  have hs1 := HB1.out.size
  have HB2 : Hid (Below w.heap.size w w2) := HB1.out.trans (hb2.mono hs1)
  have hs2 := HB2.out.size
  clear hb2
  go_wp2
  go_ret
  refine ⟨⟨_, rfl⟩, ?_⟩
  refine HB2.out.trans ?_
  repeat first | exact Below.refl _ _ | refine Below.drew ?_ | refine Below.setCell ?_ (by first | omega | (simp; done) | (simp; omega)) _ | refine Below.alloc ?_ (by first | omega | (simp; done) | (simp; omega)) _
end Go.Proofs.YtfemboojdablhaaGreatDoor.Tre
namespace Go.Proofs.YtfemboojdablhaaGreatDoor
open Go.RowKit Go.Shelf Go.Maps
open Tre (NodeD NodeRow dirD Sn)
section
variable {S : Nat → Prop} {L : List NodeD} {g cap D bl br ba1 bk1 ba2 bk2 m1 m2 : Nat} {a6 a2 a4 : Addr} {n1 n2 : Nat} {W W' : World}
theorem Env.turnD {C C' : Nat → Prop} (h : Env S L g cap D bl br ba1 bk1 ba2 bk2 m1 m2 a6 a2 a4 n1 n2 W) (ht : TurnC C C' W W') (hl : ∀ k, C k → D ≤ k) (hn : ¬ C bl ∧ ¬ C br ∧ ¬ C ba1 ∧ ¬ C bk1 ∧ ¬ C ba2 ∧ ¬ C bk2 ∧ ¬ C m1 ∧ ¬ C m2) (hS : ∀ b, b < W.heap.size → C b → S b) : Env S L g cap D bl br ba1 bk1 ba2 bk2 m1 m2 a6 a2 a4 n1 n2 W' := by
  have hD : D ≤ W.heap.size := h.lows.d
  have hb : Below D W W' := turn_below ht hl hD
  obtain ⟨q1, q2, q3, q4, q5, q6, q7, q8⟩ := hn
  exact ⟨h.row.below hb, h.gw.teller_keep (hb.mono h.d10), h.sn.below hb h.d10, h.d10, h.s1, h.s2, h.dl, h.ne1, h.ne2, boxed_turn ht h.xl q1, boxed_turn ht h.xr q2, boxed_turn ht h.xa1 q3, boxed_turn ht h.xk1 q4, boxed_turn ht h.xa2 q5, boxed_turn ht h.xk2 q6,
    h.map1.keep (ht.block _ h.map1.lt q7) (fun _ _ ⟨a, m, c, e, q⟩ => ⟨a, m, c, e, q.turn ht hS⟩), h.map2.keep (ht.block _ h.map2.lt q8) (fun _ _ q => q)⟩
theorem Env.small (h : Env S L g cap D bl br ba1 bk1 ba2 bk2 m1 m2 a6 a2 a4 n1 n2 W) : Env S L g cap D bl br ba1 bk1 ba2 bk2 m1 m2 a6 a2 a4 1000001 1000001 W :=
  { h with
    map1 := h.map1.small
    map2 := h.map2.small }
end
structure IgF where
  g : Nat
  cap : Nat
  Dn : Nat
  bl : Nat
  br : Nat
  ba1 : Nat
  bk1 : Nat
  ba2 : Nat
  bk2 : Nat
  m1 : Nat
  m2 : Nat
  bo : Nat
  ba3 : Nat
  bk3 : Nat
  m3 : Nat
  bx : Nat
  a6 : Addr
  a2 : Addr
  a4 : Addr
def IgF.own (f : IgF) : List Nat := [f.bl, f.br, f.ba1, f.bk1, f.ba2, f.bk2, f.m1, f.m2, f.bo, f.ba3, f.bk3, f.m3, f.bx]
structure JI (L : List NodeD) (f : IgF) (D E : Nat → Prop) (w : World) : Prop where
  env : Env (fun b => (D b ∧ b < w.heap.size) ∨ E b) L f.g f.cap f.Dn f.bl f.br f.ba1 f.bk1 f.ba2 f.bk2 f.m1 f.m2 f.a6 f.a2 f.a4 1000001 1000001 w
  hE : ∀ k, E k ↔ (k = f.m1 ∨ k = f.m2 ∨ k = f.m3)
  xo : Boxed w f.bo 75 (.func (.func 85) #[] #[.pointer (some ⟨f.ba2, 0, none⟩), .pointer (some ⟨f.bk2, 0, none⟩)])
  xa3 : Boxed w f.ba3 144 (.map (some f.m3))
  xk3 : Boxed w f.bk3 75 (.func (.func 56) #[] #[.pointer (some ⟨f.bl, 0, none⟩), .pointer (some ⟨f.bo, 0, none⟩)])
  xx : Boxed w f.bx 75 (.func (.func 85) #[] #[.pointer (some ⟨f.ba3, 0, none⟩), .pointer (some ⟨f.bk3, 0, none⟩)])
  map3 : Memo f.m3 1000001 (fun k v => v = .agg #[.bool (ignD L k)]) w
  nD : ∀ k, k ∈ f.own → ¬ D k
  lowD : ∀ k, D k → f.Dn ≤ k
  low3 : f.Dn ≤ f.m3
  n3 : f.m3 ≠ f.bl ∧ f.m3 ≠ f.br ∧ f.m3 ≠ f.ba1 ∧ f.m3 ≠ f.bk1 ∧ f.m3 ≠ f.ba2 ∧ f.m3 ≠ f.bk2 ∧ f.m3 ≠ f.m1 ∧ f.m3 ≠ f.m2 ∧ f.m3 ≠ f.bo ∧ f.m3 ≠ f.ba3 ∧ f.m3 ≠ f.bk3 ∧ f.m3 ≠ f.bx
  n1 : f.m1 ≠ f.bo ∧ f.m1 ≠ f.ba3 ∧ f.m1 ≠ f.bk3 ∧ f.m1 ≠ f.bx
  n2 : f.m2 ≠ f.bo ∧ f.m2 ≠ f.ba3 ∧ f.m2 ≠ f.bk3 ∧ f.m2 ≠ f.bx
section
variable {L : List NodeD} {f : IgF} {D E : Nat → Prop} {w : World}
theorem JI.lt (h : JI L f D E w) : ∀ k, k ∈ f.own → k < w.heap.size := by
  have lo := h.env.lows
  intro k hk
  simp only [IgF.own, List.mem_cons, List.not_mem_nil, or_false] at hk
  rcases hk with rfl | rfl | rfl | rfl | rfl | rfl | rfl | rfl | rfl | rfl | rfl | rfl | rfl
  · exact lo.bl
  · exact lo.br
  · exact lo.ba1
  · exact lo.bk1
  · exact lo.ba2
  · exact lo.bk2
  · exact lo.m1
  · exact lo.m2
  · exact h.xo.lt
  · exact h.xa3.lt
  · exact h.xk3.lt
  · exact h.map3.lt
  · exact h.xx.lt
theorem JI.nE (h : JI L f D E w) : ∀ k, E k → k < w.heap.size := fun k hk => by
  rcases (h.hE k).1 hk with rfl | rfl | rfl
  · exact h.lt _ (by simp [IgF.own])
  · exact h.lt _ (by simp [IgF.own])
  · exact h.lt _ (by simp [IgF.own])
theorem ji_stab (L : List NodeD) (f : IgF) : Tre.Stab (JI L f) := by
  intro D D' E w w' h hT
  have nD := fun k hk => h.nD k hk
  have e1 := h.env.less (S' := fun b => ((D b ∧ b < w.heap.size) ∨ E b) ∨ (D' b ∧ b < w'.heap.size)) (.inl h.env.s1) (.inl h.env.s2) (fun b hb q => by
    rcases q with q | q
    · exact q
    · rcases hT.new b q.1 with q | q
      · exact .inl ⟨q, hb⟩
      · omega)
  have e2 := e1.turnD hT h.lowD ⟨nD _ (by simp [IgF.own]), nD _ (by simp [IgF.own]), nD _ (by simp [IgF.own]), nD _ (by simp [IgF.own]), nD _ (by simp [IgF.own]), nD _ (by simp [IgF.own]), nD _ (by simp [IgF.own]), nD _ (by simp [IgF.own])⟩ (fun b hb q => .inl (.inl ⟨q, hb⟩))
  have e3 := e2.less (S' := fun b => (D' b ∧ b < w'.heap.size) ∨ E b) (.inr ((h.hE _).2 (.inl rfl))) (.inr ((h.hE _).2 (.inr (.inl rfl)))) (fun b _ q => by
    rcases q with q | q
    · exact .inr q
    · exact .inl (.inr q))
  refine ⟨e3, h.hE, boxed_turn hT h.xo (nD _ (by simp [IgF.own])), boxed_turn hT h.xa3 (nD _ (by simp [IgF.own])), boxed_turn hT h.xk3 (nD _ (by simp [IgF.own])), boxed_turn hT h.xx (nD _ (by simp [IgF.own])), h.map3.keep (hT.block _ h.map3.lt (nD _ (by simp [IgF.own]))) (fun _ _ q => q), fun k hk q => ?_, fun k q => ?_, h.low3, h.n3, h.n1, h.n2⟩
  · rcases hT.new k q with q | q
    · exact nD k hk q
    · have := h.lt k hk; omega
  · rcases hT.new k q with q | q
    · exact h.lowD k q
    · have := h.env.lows.d; omega
theorem JI.below {w' : World} (h : JI L f D E w) (hb : Below w.heap.size w w') : JI L f D E w' := by
  have hT : TurnC D D w w' := TurnC.of_below hb
  exact ji_stab L f D D E w w' h hT
set_option maxRecDepth 100000 in
set_option maxHeartbeats 4000000 in
theorem memo3_any (hT : TOK L) (h : JI L f D E w) (hlD : ∀ k, D k → k < w.heap.size) (k : Nat) (hk : k < L.length) :
    Calls Tryz.prog 85 #[.int .i64 (k : Int), .pointer (some ⟨f.ba3, 0, none⟩), .pointer (some ⟨f.bk3, 0, none⟩)] w fun e w' => e = .returned (.bool (ignD L k)) ∧ JI L f D E w' ∧ TurnC E E w w' := by
  have hkl : k ≤ 1000000 := by have := hT.len; omega
  have c1 := h.xa3.cell
  rcases h.map3.look Tryz.underlying144' (Tryz.zero146 w) hkl with hl | ⟨v, hl, rfl⟩
  · obtain ⟨n0, hn0⟩ : ∃ n0, w.heap.size = n0 := ⟨_, rfl⟩
    obtain ⟨W1, hW1⟩ : ∃ W1, w.alloc (.cells #[.bool false] 146) = W1 := ⟨_, rfl⟩
    have hb1 : Below w.heap.size w W1 := by rw [← hW1]; exact (Below.refl _ _).alloc (Nat.le_refl _) _
    have hz1 : W1.heap.size = n0 + 1 := by rw [← hW1, ← hn0]; simp
    have hx1 : Boxed W1 n0 146 (.bool false) := by rw [← hW1, ← hn0]; exact Boxed.new _ _ _
    have hlt := h.lt
    have hnE := h.nE
    have he1 := (h.env.less (S' := fun b => ((D b ∧ b < n0) ∨ E b) ∨ b = n0) (.inl (.inr ((h.hE _).2 (.inl rfl)))) (.inl (.inr ((h.hE _).2 (.inr (.inl rfl))))) (fun b hb q => by
      rcases q with q | q
      · rw [hn0]; exact q
      · omega)).below hb1
    have hA := ask3_any he1 (by omega) (by omega) hT k hk (fun b q => by
      rcases q with (q | q) | q
      · omega
      · have := hnE b q; omega
      · omega) f.bo (boxed_below h.xo hb1 h.xo.lt) ⟨fun e => h.n1.1 e.symm, fun e => h.n2.1 e.symm⟩
    have c2a : (w.alloc (.cells #[.bool false] 146)).cell? ⟨f.bk3, 0, none⟩ = some (.func (.func 56) #[] #[.pointer (some ⟨f.bl, 0, none⟩), .pointer (some ⟨f.bo, 0, none⟩)]) := by rw [hW1]; exact (boxed_below h.xk3 hb1 h.xk3.lt).cell
    have HH := hide h
    have HB1 := hide hb1
    have HX1 := hide hx1
    have HW1 := hide hW1
    have HN := hide hn0
    have HLT := hide hlt
    have HLE := hide hnE
    have HLD := hide hlD
    clear h hb1 hx1 he1 hW1 hn0 hlt hnE hlD
    go_enter Tryz.func85, Tryz.ntmps85
    go_wp2_with fail
    rw [HW1.out]
    refine hA.mono ?_
    rintro e w2 ⟨rfl, ht2, n', n'', he2⟩
    have h := HH.out
    have hn0 := HN.out
    have nn : ∀ k, k ∈ f.own → k ≠ n0 := fun k hk => by have := HLT.out k hk; omega
    have hx2 : Boxed w2 n0 146 (.bool false) := boxed_turn ht2 HX1.out (fun q => by
      rcases q with q | q
      · exact nn f.m1 (by simp [IgF.own]) q.symm
      · exact nn f.m2 (by simp [IgF.own]) q.symm)
    rw [HN.out]
    obtain ⟨w3, hw3⟩ : ∃ w3, w2.setCell ⟨n0, 0, none⟩ (.bool (ignD L k)) = w3 := ⟨_, rfl⟩
    have hx3 : Boxed w3 n0 146 (.bool (ignD L k)) := by rw [← hw3]; exact hx2.set _
    have t3 : TurnC (fun b => b = n0) (fun b => b = n0) w2 w3 := by rw [← hw3]; exact .setCell _ _ _ rfl
    have hdn : f.Dn ≤ n0 := by have := h.env.lows.d; omega
    have he3 := he2.turnD t3 (fun b q => by rw [q]; exact hdn) ⟨nn _ (by simp [IgF.own]), nn _ (by simp [IgF.own]), nn _ (by simp [IgF.own]), nn _ (by simp [IgF.own]), nn _ (by simp [IgF.own]), nn _ (by simp [IgF.own]), nn _ (by simp [IgF.own]), nn _ (by simp [IgF.own])⟩ (fun b _ q => .inr q)
    have n3 := h.n3
    have n1 := h.n1
    have n2 := h.n2
    have t13 : ∀ {b : Nat} {t : TypeId} {v : Value}, b ∈ f.own → b ≠ f.m1 → b ≠ f.m2 → Boxed w b t v → Boxed w3 b t v := fun hb q1 q2 hx =>
      boxed_turn t3 (boxed_turn ht2 (boxed_below hx HB1.out hx.lt) (fun q => by rcases q with q | q; exact q1 q; exact q2 q)) (nn _ hb)
    have hm3 : Memo f.m3 1000001 (fun k v => v = .agg #[.bool (ignD L k)]) w3 := by
      have z0 := h.map3.lt
      have k1 := h.map3.keep (HB1.out.block _ z0) (fun _ _ q => q)
      have k2 := k1.keep (ht2.block _ k1.lt (fun q => by rcases q with q | q; exact n3.2.2.2.2.2.2.1 q; exact n3.2.2.2.2.2.2.2.1 q)) (fun _ _ q => q)
      exact k2.keep (t3.block _ k2.lt (nn _ (by simp [IgF.own]))) (fun _ _ q => q)
    obtain ⟨W4, hup, hmm, hgr⟩ := hm3.put Tryz.underlying144' (by omega) hkl (v := .agg #[.bool (ignD L k)]) rfl
    have hx4 : Boxed W4 n0 146 (.bool (ignD L k)) := (hgr.block n0 hx3.lt (fun e => nn f.m3 (by simp [IgF.own]) (Option.some.inj e).symm)).trans hx3
    have t4 : TurnC (fun b => b = f.m3) (fun b => b = f.m3) w3 W4 := ⟨hgr.os, hgr.tape, hgr.output, hgr.size, fun b hb hc => hgr.block b hb (fun e => hc (Option.some.inj e)), fun _ q => .inl q⟩
    have he4 := he3.turnD t4 (fun b q => by rw [q]; exact h.low3) ⟨fun q => n3.1 q.symm, fun q => n3.2.1 q.symm, fun q => n3.2.2.1 q.symm, fun q => n3.2.2.2.1 q.symm, fun q => n3.2.2.2.2.1 q.symm, fun q => n3.2.2.2.2.2.1 q.symm, fun q => n3.2.2.2.2.2.2.1 q.symm, fun q => n3.2.2.2.2.2.2.2.1 q.symm⟩ (fun b _ q => .inl (.inr ((h.hE _).2 (.inr (.inr q)))))
    have hEn : Env (fun b => (D b ∧ b < W4.heap.size) ∨ E b) L f.g f.cap f.Dn f.bl f.br f.ba1 f.bk1 f.ba2 f.bk2 f.m1 f.m2 f.a6 f.a2 f.a4 1000001 1000001 W4 := (he4.less (.inr ((h.hE _).2 (.inl rfl))) (.inr ((h.hE _).2 (.inr (.inl rfl)))) (fun b _ q => by
      rcases q with q | q
      · exact .inl (.inl ⟨q.1, by have := HLD.out b q.1; omega⟩)
      · exact .inl (.inr q))).small
    have bx4 : ∀ {b : Nat} {t : TypeId} {v : Value}, b ∈ f.own → b ≠ f.m1 → b ≠ f.m2 → b ≠ f.m3 → Boxed w b t v → Boxed W4 b t v := fun hb q1 q2 q3 hx => boxed_turn t4 (t13 hb q1 q2 hx) q3
    have hJ : JI L f D E W4 := ⟨hEn, h.hE, bx4 (by simp [IgF.own]) (fun e => n1.1 e.symm) (fun e => n2.1 e.symm) (fun e => n3.2.2.2.2.2.2.2.2.1 e.symm) h.xo, bx4 (by simp [IgF.own]) (fun e => n1.2.1 e.symm) (fun e => n2.2.1 e.symm) (fun e => n3.2.2.2.2.2.2.2.2.2.1 e.symm) h.xa3, bx4 (by simp [IgF.own]) (fun e => n1.2.2.1 e.symm) (fun e => n2.2.2.1 e.symm) (fun e => n3.2.2.2.2.2.2.2.2.2.2.1 e.symm) h.xk3, bx4 (by simp [IgF.own]) (fun e => n1.2.2.2 e.symm) (fun e => n2.2.2.2 e.symm) (fun e => n3.2.2.2.2.2.2.2.2.2.2.2 e.symm) h.xx, hmm.small, h.nD, h.lowD, h.low3, h.n3, h.n1, h.n2⟩
    have tt : TurnC E E w W4 := ⟨t4.os.trans (t3.os.trans (ht2.os.trans HB1.out.os)), t4.tape.trans (t3.tape.trans (ht2.tape.trans HB1.out.tape)), t4.output.trans (t3.output.trans (ht2.output.trans HB1.out.output)), Nat.le_trans HB1.out.size (Nat.le_trans ht2.size (Nat.le_trans t3.size t4.size)), fun b hb hc => by
      have z1 := HB1.out.size
      have z2 := ht2.size
      have z3 := t3.size
      have a1 := HB1.out.block b hb
      have a2 := ht2.block b (by omega) (fun q => hc ((h.hE _).2 (by rcases q with q | q; exact .inl q; exact .inr (.inl q))))
      have a3 := t3.block b (by omega) (by omega)
      exact (t4.block b (by omega) (fun q => hc ((h.hE _).2 (.inr (.inr q))))).trans (a3.trans (a2.trans a1)), fun _ q => .inl q⟩
    have HF := hide (And.intro hJ tt)
    have d0 := hx2.cell
    have f0 := hx2.frozen
    have d1 : w3.cell? ⟨f.ba3, 0, none⟩ = some (.map (some f.m3)) := (t13 (by simp [IgF.own]) (fun e => n1.2.1 e.symm) (fun e => n2.2.1 e.symm) h.xa3).cell
    have d3 := hx3.cell
    have d4 := hx4.cell
    rw [← hw3] at d1 d3 hup
    clear t3 t4 he3 he4 hEn hm3 hmm hgr hx2 hx3 hx4 he2 ht2 hw3 HB1 HX1 HW1 HN hA tt hJ h t13 bx4 nn n1 n2 n3 hn0 HH HLT HLE HLD hdn
    go_wp2
    go_ret
    exact ⟨rfl, HF.out.1, HF.out.2⟩
  · have HB : Hid (Below w.heap.size w (w.alloc (.cells #[.bool (ignD L k)] 146))) := (Below.refl _ _).alloc (Nat.le_refl _) _
    have HE := hide h
    have HLD := hide hlD
    clear h hlD
    go_enter Tryz.func85, Tryz.ntmps85
    go_wp2
    go_ret
    exact ⟨rfl, HE.out.below HB.out, .of_below HB.out⟩
end
end Go.Proofs.YtfemboojdablhaaGreatDoor
namespace Go.Proofs.YtfemboojdablhaaGreatDoor.Tre
open Go.RowKit Go.Shelf
variable {L : List NodeD} {c : Cf} {gone nn : Nat} {out : List UInt8} {ab : List Bool} {pv bv tv : Value} {W W' : World}
theorem WSt.turnE {C C' : Nat → Prop} (h : WSt L c gone out ab pv bv tv nn W) (ht : TurnC C C' W W') (hC : ∀ k, C k → c.B ≤ k ∧ ¬ DS c bv tv k ∧ k ≠ c.gm) : WSt L c gone out ab pv bv tv nn W' := by
  obtain ⟨ts, hts⟩ := h.nts
  exact ⟨(ht.block _ h.blk.lt (fun q => (hC _ q).2.1 (.inl rfl))).trans h.blk, h.pvs, wown_keep h.buf (fun k hk => ht.block k (h.buf.lt k hk).2 (fun q => (hC _ q).2.1 (.inr (.inr (.inl hk))))), h.emp, ⟨ts, wown_keep hts (fun k hk => ht.block k (hts.lt k hk).2 (fun q => (hC _ q).2.1 (.inr (.inr (.inr hk)))))⟩,
    (ht.block _ (Array.getElem?_eq_some_iff.1 h.mea).1 (fun q => (hC _ q).2.2 rfl)).trans h.mea, (ht.block _ (Array.getElem?_eq_some_iff.1 h.abv).1 (fun q => (hC _ q).2.1 (.inr (.inl rfl)))).trans h.abv, h.abl, h.row.below (turn_low ht (fun k q => (hC k q).1) h.Bl), h.bB, h.gB⟩
theorem eTurn {D E E' : Nat → Prop} (h : TurnC E E' W W') : TurnE D E D E' W W' :=
  ⟨h.os, h.tape, h.output, h.size, fun k hk q => h.block k hk (fun e => q (.inr e)), fun k q => by
    rcases q with q | q
    · exact .inl (.inl q)
    · rcases h.new k q with q | q
      · exact .inl (.inr q)
      · exact .inr q⟩
theorem memo_ne {bm n b : Nat} {Ok : Nat → Value → Prop} {a : Array Value} {t : TypeId} {y : Nat × Nat} (h : Memo bm n Ok W) (hb : W.heap[b]? = some (.cells a t y)) : bm ≠ b := by
  rintro rfl
  obtain ⟨D, ⟨es, cl, h1, _⟩, _⟩ := h
  rw [h1] at hb
  cases hb
set_option maxRecDepth 100000 in
set_option maxHeartbeats 2000000 in
theorem ign1_any {f : IgF} {D E : Nat → Prop} {w : World} (hT : TOK L) (h : JI L f D E w) (hlD : ∀ k, D k → k < w.heap.size) (vb k : Nat) (p : ByteArray) (d : Int) (n : NodeD) (kv : Value) (hv : VisB w vb p d k n kv) (hk : k < L.length) :
    Calls Tryz.prog 60 #[.pointer (some ⟨vb, 0, none⟩), .pointer (some ⟨f.bx, 0, none⟩)] w fun e w' => e = .returned (.bool (ignD L k)) ∧ JI L f D E w' ∧ TurnC E E w w' := by
  have hb : Below w.heap.size w w.drew := (Below.refl _ w).drew
  have HM := hide (memo3_any hT (h.below hb) hlD k hk)
  have c0 : w.drew.cell? ⟨f.bx, 0, none⟩ = some (.func (.func 85) #[] #[.pointer (some ⟨f.ba3, 0, none⟩), .pointer (some ⟨f.bk3, 0, none⟩)]) := h.xx.cell
  have c1 : w.drew.cell? ⟨vb, 2, none⟩ = some (.int .i64 (k : Int)) := hv.cell 2
  have HT0 : Hid (TurnC E E w w.drew) := TurnC.of_below hb
  clear h hv hb
  go_enter Tryz.func60, Tryz.ntmps60
  go_wp2_with fail
  refine (fun (KEY : ∀ w', (JI L f D E w' ∧ TurnC E E w.drew w') → (?G : World → Prop) w') => ?main) ?key
  case main =>
    go_region_with (go_at_call 85; refine HM.out.mono ?_; rintro e w6 ⟨rfl, hJ6, hT6⟩)
    all_goals exact KEY _ ⟨hJ6, hT6⟩
  case key =>
    intro w' hw'
    have HW := hide hw'
    clear hw'
    go_wp2
    go_ret
    exact ⟨rfl, HW.out.1, HT0.out.trans HW.out.2⟩
structure JIgn (L : List NodeD) (c : Cf) (f : IgF) (kr wb eb : Nat) (D E : Nat → Prop) (w : World) : Prop where
  hkb : w.heap[c.kb]? = some (.cells #[.slice (some ⟨kr, 0, none⟩) 2 2] 97 (0, 0))
  hkr : w.heap[kr]? = some (.cells #[.func (.func 60) #[] #[.pointer (some ⟨f.bx, 0, none⟩)], .func (.func 70) #[] #[.pointer (some ⟨wb, 0, none⟩), .pointer (some ⟨eb, 0, none⟩)]] 85 (0, 0))
  pr : PrB w c.b wb eb
  nk : ¬ D c.kb
  nr : ¬ D kr
  nw : ¬ D wb
  ne : ¬ D eb
  ji : JI L f D E w
  lo : c.B ≤ f.m1 ∧ c.B ≤ f.m2 ∧ c.B ≤ f.m3
theorem JIgn.nE {f : IgF} {kr wb eb : Nat} {D E : Nat → Prop} {w : World} (h : JIgn L c f kr wb eb D E w) {b : Nat} {a : Array Value} {t : TypeId} {y : Nat × Nat} (hb : w.heap[b]? = some (.cells a t y)) : ¬ E b := fun q => by
  rcases (h.ji.hE b).1 q with rfl | rfl | rfl
  · exact memo_ne h.ji.env.map1 hb rfl
  · exact memo_ne h.ji.env.map2 hb rfl
  · exact memo_ne h.ji.map3 hb rfl
theorem jign_stab (L : List NodeD) (c : Cf) (f : IgF) (kr wb eb : Nat) : Stab (JIgn L c f kr wb eb) := by
  intro D D' E w w' h hT
  have keep : ∀ k, k < w.heap.size → ¬ D k → w'.heap[k]? = w.heap[k]? ∧ ¬ D' k := fun k hk hd => ⟨hT.block k hk hd, fun q => by rcases hT.new k q with a | a; exact hd a; omega⟩
  have lt : ∀ {k : Nat} {a : Array Value} {t : TypeId} {y : Nat × Nat}, w.heap[k]? = some (.cells a t y) → k < w.heap.size := fun h => (Array.getElem?_eq_some_iff.1 h).1
  obtain ⟨a1, a2⟩ := keep _ (lt h.hkb) h.nk
  obtain ⟨b1, b2⟩ := keep _ (lt h.hkr) h.nr
  obtain ⟨c1, c2⟩ := keep _ (lt h.pr.w) h.nw
  obtain ⟨d1, d2⟩ := keep _ (lt h.pr.e) h.ne
  exact ⟨a1.trans h.hkb, b1.trans h.hkr, ⟨c1.trans h.pr.w, d1.trans h.pr.e⟩, a2, b2, c2, d2, ji_stab L f D D' E w w' h.ji hT, h.lo⟩
set_option maxRecDepth 100000 in
set_option maxHeartbeats 4000000 in
theorem jign_wnt (L : List NodeD) (hTO : TOK L) (c : Cf) (f : IgF) (kr wb eb : Nat) : Wnt L c (ignD L) (JIgn L c f kr wb eb) := by
  intro vb k p d n kv gone nn out ab pv bv tv E w h hj hv hE hn hlen h0
  have hlD : ∀ k, DS c bv tv k → k < w.heap.size := fun k hk => (h.lts k hk).2
  have hkl := (List.getElem?_eq_some_iff.1 hn).1
  have c0 : w.cell? ⟨c.kb, 0, none⟩ = some (.slice (some ⟨kr, 0, none⟩) 2 2) := one_cell hj.hkb
  have c1 : w.cell? ⟨kr, 0, none⟩ = some (.func (.func 60) #[] #[.pointer (some ⟨f.bx, 0, none⟩)]) := by rw [Lib.cell_of_heap hj.hkr]; rfl
  have HI := hide (ign1_any hTO hj.ji hlD vb k p d n kv hv hkl)
  have HX := hide (⟨h, hj, hv⟩ : _ ∧ _ ∧ _)
  clear h hj hv hlD
  go_enter Tryz.func69, Tryz.ntmps69
  go_wp2
  refine wp_loop_rounds 3 ?_
  rw [rounds_succ]
  go_wp2_with fail
  refine HI.out.mono ?_
  rintro e w1 ⟨rfl, hJ1, hT1⟩
  obtain ⟨h, hj, hv⟩ := HX.out
  have hC : ∀ k, E k → c.B ≤ k ∧ ¬ DS c bv tv k ∧ k ≠ c.gm := fun k q => by
    have hq := (hj.ji.hE k).1 q
    refine ⟨?_, fun hd => hj.ji.nD k ?_ hd, fun e => hj.nE h.mea (e ▸ q)⟩
    · rcases hq with rfl | rfl | rfl
      · exact hj.lo.1
      · exact hj.lo.2.1
      · exact hj.lo.2.2
    · rcases hq with rfl | rfl | rfl <;> simp [IgF.own]
  have h1 := h.turnE hT1 hC
  have k1 := (hT1.block _ (Array.getElem?_eq_some_iff.1 hj.hkb).1 (hj.nE hj.hkb)).trans hj.hkb
  have k2 := (hT1.block _ (Array.getElem?_eq_some_iff.1 hj.hkr).1 (hj.nE hj.hkr)).trans hj.hkr
  have k3 := (hT1.block _ (Array.getElem?_eq_some_iff.1 hj.pr.w).1 (hj.nE hj.pr.w)).trans hj.pr.w
  have k4 := (hT1.block _ (Array.getElem?_eq_some_iff.1 hj.pr.e).1 (hj.nE hj.pr.e)).trans hj.pr.e
  have hj1 : JIgn L c f kr wb eb (DS c bv tv) E w1 := ⟨k1, k2, ⟨k3, k4⟩, hj.nk, hj.nr, hj.nw, hj.ne, hJ1, hj.lo⟩
  have hv1 := hv.turn hT1 hE
  have d2 : w1.cell? ⟨kr, 1, none⟩ = some (.func (.func 70) #[] #[.pointer (some ⟨wb, 0, none⟩), .pointer (some ⟨eb, 0, none⟩)]) := by rw [Lib.cell_of_heap k2]; rfl
  have HP := hide (print1_any wb eb vb k p d n kv w1 h1 hj1.pr hv1 hj1.nw hj1.ne hlen h0)
  have HY := hide (⟨h1, hj1, hT1⟩ : _ ∧ _ ∧ _)
  clear h hj hv hC h1 k1 k2 k3 k4 hj1 hv1 hJ1 hT1
  cases hig : ignD L k with
  | false =>
    go_wp2
    go_ret
    obtain ⟨h1, hj1, hT1⟩ := HY.out
    exact ⟨⟨_, rfl⟩, pv, bv, E, by rw [hig]; simpa [lineB] using h1, hj1, eTurn hT1⟩
  | true =>
    go_wp2
    rw [rounds_succ]
    go_wp2_with fail
    refine HP.out.mono ?_
    rintro e w2 ⟨rfl, pv', bv', h2, hT2⟩
    have HZ := hide (⟨h2, hT2⟩ : _ ∧ _)
    clear h2 hT2
    go_wp2
    rw [rounds_succ]
    go_wp2
    go_ret
    obtain ⟨h1, hj1, hT1⟩ := HY.out
    obtain ⟨h2, hT2⟩ := HZ.out
    exact ⟨⟨_, rfl⟩, pv', bv', E, by rw [hig]; exact h2, jign_stab L c f kr wb eb _ _ _ _ _ hj1 hT2, (eTurn hT1).trans (withE hT2)⟩
theorem jign_asks (L : List NodeD) (hTO : TOK L) (c : Cf) (f : IgF) (kr wb eb : Nat) (hms : (1000 : Int) ≤ c.ms) : Asks L c (ignD L) (JIgn L c f kr wb eb) :=
  ⟨jign_wnt L hTO c f kr wb eb, jign_stab L c f kr wb eb, fun _ _ _ h k hk => h.ji.nE k hk, fun _ _ _ h k hk => by
    rcases (h.ji.hE k).1 hk with rfl | rfl | rfl
    · exact h.lo.1
    · exact h.lo.2.1
    · exact h.lo.2.2, hms⟩
end Go.Proofs.YtfemboojdablhaaGreatDoor.Tre
namespace Go.Proofs.YtfemboojdablhaaGreatDoor.Tre
open Go.RowKit Go.Shelf
theorem made_one (z : Value) (hz : z.cells = #[z]) (n : Nat) : madeCells z.cells (n * 1) = (List.replicate n z).toArray := by
  rw [Nat.mul_one]
  unfold madeCells
  have ef : (fun x : Nat => z.cells[x % z.cells.size]!) = fun _ => z := by
    funext x
    rw [hz]
    simp [Nat.mod_one]
  rw [ef]
  apply Array.ext'
  simp [List.map_const']
theorem make_any (t e : TypeId) (i0 : TypeInfo) (z : Value) (ht : Tryz.prog.underlying t = some (.slice e)) (hi : Tryz.prog.info? e = some i0) (hz0 : i0.zero = some z) (hz1 : i0.size = 1) (hz2 : i0.bytes ≤ 8) (hzc : z.cells = #[z]) (n : Nat) (hn : n ≤ 1000) (W : World) :
    (Instr.makeSlice t (.int .i64 (n : Int)) (.int .i64 (n : Int))).run Tryz.prog W = .ok (.slice (some ⟨W.heap.size, 0, none⟩) n n) (W.alloc (.cells (List.replicate n z).toArray e)) := by
  have h := run_make (P := Tryz.prog) W t e i0 z ht hi hz0 .i64 .i64 (n : Int) (n : Int) (by omega) (Int.le_refl _) (by have : i0.bytes * n ≤ 8 * 1000 := Nat.mul_le_mul hz2 hn; omega) (by omega)
  rw [hz1, Int.toNat_natCast, made_one z hzc] at h
  exact h
theorem Tryz.info3w : (Tryz.prog.info? 3).map (fun i => (i.zero, i.size, i.bytes)) = some (some (.int .i64 0), 1, 8) := by kernel_rfl
theorem Tryz.info4w : (Tryz.prog.info? 4).map (fun i => (i.zero, i.size, i.bytes)) = some (some (.bool false), 1, 1) := by kernel_rfl
theorem make_ints (n : Nat) (hn : n ≤ 1000) (W : World) : (Instr.makeSlice 40 (.int .i64 (n : Int)) (.int .i64 (n : Int))).run Tryz.prog W = .ok (.slice (some ⟨W.heap.size, 0, none⟩) n n) (W.alloc (.cells (List.replicate n (Value.int .i64 0)).toArray 3)) := by
  obtain ⟨i0, hi, hz0, hz1, hz2⟩ := info_parts Tryz.info3w
  exact make_any 40 3 i0 _ Tryz.underlying40 hi hz0 hz1 (by omega) rfl n hn W
theorem make_bools (n : Nat) (hn : n ≤ 1000) (W : World) : (Instr.makeSlice 83 (.int .i64 (n : Int)) (.int .i64 (n : Int))).run Tryz.prog W = .ok (.slice (some ⟨W.heap.size, 0, none⟩) n n) (W.alloc (.cells (List.replicate n (Value.bool false)).toArray 4)) := by
  obtain ⟨i0, hi, hz0, hz1, hz2⟩ := info_parts Tryz.info4w
  exact make_any 83 4 i0 _ Tryz.underlying83 hi hz0 hz1 (by omega) rfl n hn W
def meaK (n k : Nat) : List Value := (List.range k).map (fun (i : Nat) => Value.int .i64 (i : Int)) ++ List.replicate (n - k) (Value.int .i64 0)
theorem meaK_zero (n : Nat) : meaK n 0 = List.replicate n (Value.int .i64 0) := by simp [meaK]
theorem meaK_all (n : Nat) : meaK n n = meaL n := by simp [meaK, meaL]
theorem meaK_step {n k : Nat} (h : k < n) : (meaK n k).toArray.setIfInBounds k (.int .i64 (k : Int)) = (meaK n (k + 1)).toArray := by
  apply Array.ext'
  simp only [meaK, Array.toList_setIfInBounds]
  rw [List.set_append_right _ _ (by simp), List.length_map, List.length_range, Nat.sub_self, show n - k = (n - (k + 1)) + 1 from by omega, List.replicate_succ, List.set_cons_zero, List.range_succ, List.map_append]
  simp
set_option maxRecDepth 100000 in
set_option maxHeartbeats 2000000 in
theorem meant_any (a : Option Addr) (n cap : Nat) (hn : n ≤ 1000) (w : World) : Calls Tryz.prog 36 #[.slice a n cap, .bool false] w fun e w' => e = .returned (.slice (some ⟨w.heap.size, 0, none⟩) n n) ∧ w'.heap[w.heap.size]? = some (.cells (meaL n).toArray 3 (0, 0)) ∧ w'.heap.size = w.heap.size + 1 ∧ Below w.heap.size w w' := by
  have hmk := make_ints n hn
  have hb0 : (true : Bool) = true := rfl
  go_enter Tryz.func36, Tryz.ntmps36
  go_wp2
  obtain ⟨g, hg⟩ : ∃ g, w.heap.size = g := ⟨_, rfl⟩
  go_loopw [14] (fun iv wr => ∃ k : Nat, iv = .int .i64 (k : Int) ∧ k ≤ n ∧ wr.heap[w.heap.size]? = some (.cells (meaK n k).toArray 3 (0, 0)) ∧ wr.heap.size = w.heap.size + 1 ∧ Below w.heap.size w wr) (fun iv _ => n - (intOf iv).toNat)
  case atStart => exact ⟨0, rfl, Nat.zero_le _, by rw [meaK_zero]; exact World.alloc_heap_new w _, by simp, (Below.refl _ _).alloc (Nat.le_refl _) _⟩
  case round =>
    obtain ⟨k, rfl, hk, hh, hs, hb⟩ := hrel
    by_cases hlt : k < n
    · have hkI : (k : Int) < (n : Int) := by omega
      have b3 : decide ((k : Int) < (n : Int)) = true := by rw [decide_eq_true_eq]; omega
      have c0 : ∃ v, wr.cell? ⟨w.heap.size, k, none⟩ = some v := by
        rw [Lib.cell_of_heap hh]
        exact ⟨_, Array.getElem?_eq_getElem (by simp [meaK]; omega)⟩
      obtain ⟨v0, c0⟩ := c0
      have f0 : wr.frozen? ⟨w.heap.size, k, none⟩ = false := Lib.frozen_of_heap hh k
      have H1 : Hid ((wr.setCell ⟨w.heap.size, k, none⟩ (.int .i64 (k : Int))).heap[w.heap.size]? = some (.cells (meaK n (k + 1)).toArray 3 (0, 0))) := by
        rw [← meaK_step hlt]; exact wset_block hh
      have H2 := hide (⟨hs, hb⟩ : _ ∧ _)
      clear hh hs hb hg
      go_wp2
      go_roundw
      case rel => exact ⟨k + 1, by go_num, by omega, H1.out, by simp only [World.setCell, Array.size_modify]; exact H2.out.1, H2.out.2.setCell (p := ⟨w.heap.size, k, none⟩) (Nat.le_refl _) _⟩
      case measure => simp [intOf]; omega
    · have hke : k = n := by omega
      subst hke
      have b3 : decide ((k : Int) < (k : Int)) = false := by rw [decide_eq_false_iff_not]; omega
      rw [meaK_all] at hh
      have H2 := hide (⟨hh, hs, hb⟩ : _ ∧ _ ∧ _)
      clear hh hs hb hg
      go_wp2
      go_ret
      exact ⟨rfl, H2.out⟩
end Go.Proofs.YtfemboojdablhaaGreatDoor.Tre
