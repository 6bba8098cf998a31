/- Merged: IbT, IbU, IbV, WkC. -/
import Derived.Test.YtfemboojdablhaaGreatDoorMi35
import Derived.Test.YtfemboojdablhaaGreatDoorMi27
import Derived.Test.YtfemboojdablhaaGreatDoorMi23
import Derived.Lib.Builder
import Derived.Lib.AppendStr
import Derived.Lib.UnsafeStr
import Derived.Lib.Slices
import Derived.Lib.Walk
import Derived.Laws.Externs
namespace Go.Proofs.YtfemboojdablhaaGreatDoor
open Go.RowKit Go.Shelf Go.Maps
open Tre (NodeD NodeRow dirD Sn)
section
variable {S : Nat → Prop} {L : List NodeD} {g cap D bl br ba1 bk1 ba2 bk2 m1 m2 : Nat} {a6 a2 a4 : Addr} {n1 n2 : Nat} {W W' : World}
theorem Env.put2 (h : Env S L g cap D bl br ba1 bk1 ba2 bk2 m1 m2 a6 a2 a4 n1 n2 W) (hg : W.grownBy W' (some m2)) (hm : Memo m2 (n2 + 1) (fun k v => v = .agg #[.bool (saysD L k)]) W') : Env S L g cap D bl br ba1 bk1 ba2 bk2 m1 m2 a6 a2 a4 n1 (n2 + 1) W' := by
  have ht : TurnC (fun k => k = m2) (fun k => k = m2) W W' := ⟨hg.os, hg.tape, hg.output, hg.size, fun k hk hc => hg.block k hk (fun e => hc (Option.some.inj e)), fun _ q => .inl q⟩
  have hD : D ≤ W.heap.size := h.lows.d
  have hb : Below D W W' := turn_below ht (fun k q => by have := h.dl; omega) hD
  have n := h.ne2
  exact ⟨h.row.below hb, h.gw.teller_keep (hb.mono h.d10), h.sn.below hb h.d10, h.d10, h.s1, h.s2, h.dl, h.ne1, h.ne2, boxed_turn ht h.xl (Ne.symm n.1), boxed_turn ht h.xr (Ne.symm n.2.1), boxed_turn ht h.xa1 (Ne.symm n.2.2.1), boxed_turn ht h.xk1 (Ne.symm n.2.2.2.1), boxed_turn ht h.xa2 (Ne.symm n.2.2.2.2.1), boxed_turn ht h.xk2 (Ne.symm n.2.2.2.2.2),
    h.map1.keep (ht.block _ h.map1.lt h.ne1.2.2.2.2.2.2) (fun _ _ ⟨a, m, c, e, q⟩ => ⟨a, m, c, e, q.turn ht (fun b _ q => by rw [q]; exact h.s2)⟩), hm⟩
set_option maxRecDepth 100000 in
set_option maxHeartbeats 2000000 in
theorem ask2_any (h : Env S L g cap D bl br ba1 bk1 ba2 bk2 m1 m2 a6 a2 a4 n1 n2 W) (hn : n1 ≤ 100000000) (hT : TOK L) (k : Nat) (nd : NodeD) (hk : L[k]? = some nd) (hS0 : ∀ b, S b → b < W.heap.size) :
    Calls Tryz.prog 54 #[.int .i64 (k : Int), .pointer (some ⟨bl, 0, none⟩), .pointer (some ⟨br, 0, none⟩)] W fun e w' => e = .returned (.bool (saysD L k)) ∧ (∃ n', n' ≤ n1 + 201 ∧ Env S L g cap D bl br ba1 bk1 ba2 bk2 m1 m2 a6 a2 a4 n' n2 w') ∧ TurnC (fun b => b = m1) (fun b => b = m1) W w' := by
  have hY := says_any h hn hT k nd hk hS0
  have c0 := h.xl.cell
  have c1 := h.xr.cell
  go_enter Tryz.func54, Tryz.ntmps54
  go_wp2_with fail
  refine hY.mono ?_
  rintro e w1 ⟨rfl, hE⟩
  have HE := hide hE
  clear hE hY
  go_wp2
  go_ret
  exact ⟨rfl, HE.out⟩
theorem Tryz.underlying144' : Tryz.prog.underlying 144 = some (.map 3 146) := by kernel_rfl
theorem Tryz.zero146 (W : World) : (zeroValue 146).run Tryz.prog W = .ok (.agg #[.bool false]) W := by kernel_rfl
set_option maxRecDepth 100000 in
set_option maxHeartbeats 4000000 in
theorem memo2_any (h : Env S L g cap D bl br ba1 bk1 ba2 bk2 m1 m2 a6 a2 a4 n1 n2 W) (hn : n1 ≤ 100000000) (hn2 : n2 ≤ 1000000000) (hT : TOK L) (k : Nat) (nd : NodeD) (hk : L[k]? = some nd) (hS0 : ∀ b, S b → b < W.heap.size) :
    Calls Tryz.prog 85 #[.int .i64 (k : Int), .pointer (some ⟨ba2, 0, none⟩), .pointer (some ⟨bk2, 0, none⟩)] W fun e w' => e = .returned (.bool (saysD L k)) ∧ (∃ n', n' ≤ n1 + 201 ∧ Env S L g cap D bl br ba1 bk1 ba2 bk2 m1 m2 a6 a2 a4 n' (n2 + 1) w') ∧ TurnC (fun b => b = m1 ∨ b = m2) (fun b => b = m1 ∨ b = m2) W w' := by
  have hkl : k ≤ 1000000 := by have := (List.getElem?_eq_some_iff.1 hk).1; have := hT.len; omega
  have c1 := h.xa2.cell
  rcases h.map2.look Tryz.underlying144' (Tryz.zero146 W) hkl with hl | ⟨v, hl, rfl⟩
  · obtain ⟨n0, hn0⟩ : ∃ n0, W.heap.size = n0 := ⟨_, rfl⟩
    obtain ⟨W1, hW1⟩ : ∃ W1, W.alloc (.cells #[.bool false] 146) = W1 := ⟨_, rfl⟩
    have hb1 : Below W.heap.size W W1 := by rw [← hW1]; exact (Below.refl _ _).alloc (Nat.le_refl _) _
    have hz1 : W1.heap.size = n0 + 1 := by rw [← hW1, ← hn0]; simp
    have hx1 : Boxed W1 n0 146 (.bool false) := by rw [← hW1, ← hn0]; exact Boxed.new _ _ _
    have lo := h.lows
    rw [hn0] at lo hS0
    have he1 := (h.less (S' := fun b => S b ∨ b = n0) (.inl h.s1) (.inl h.s2) (fun b hb q => by
      rcases q with q | q
      · exact q
      · omega)).below hb1
    have hA := ask2_any he1 hn hT k nd hk (fun b q => by
      rcases q with q | q
      · have := hS0 b q; omega
      · omega)
    have c2a : (W.alloc (.cells #[.bool false] 146)).cell? ⟨bk2, 0, none⟩ = some (.func (.func 54) #[] #[.pointer (some ⟨bl, 0, none⟩), .pointer (some ⟨br, 0, none⟩)]) := by rw [hW1]; exact he1.xk2.cell
    have hs : S m1 ∧ S m2 := ⟨h.s1, h.s2⟩
    have HB1 := hide hb1
    have HX1 := hide hx1
    have HW1 := hide hW1
    have HN := hide hn0
    clear h hb1 hx1 he1 hW1 hn0
    go_enter Tryz.func85, Tryz.ntmps85
    go_wp2_with fail
    rw [HW1.out]
    refine hA.mono ?_
    rintro e w2 ⟨rfl, ⟨n', hn', he2⟩, ht2⟩
    have hx2 : Boxed w2 n0 146 (.bool false) := boxed_turn ht2 HX1.out (by have := lo.m1; omega)
    rw [HN.out]
    obtain ⟨w3, hw3⟩ : ∃ w3, w2.setCell ⟨n0, 0, none⟩ (.bool (saysD L k)) = w3 := ⟨_, rfl⟩
    have hx3 : Boxed w3 n0 146 (.bool (saysD L k)) := by rw [← hw3]; exact hx2.set _
    have t3 : TurnC (fun b => b = n0) (fun b => b = n0) w2 w3 := by rw [← hw3]; exact .setCell _ _ _ rfl
    have he3 := (he2.keepK (K := fun b => b ≠ n0) lo t3.os t3.tape t3.output t3.size (fun b hb q => t3.block b hb q) (fun b q => by omega) (fun b _ q e => q (.inr e))).less hs.1 hs.2 (fun b _ q => .inl q)
    obtain ⟨W4, hup, hmm, hgr⟩ := he3.map2.put Tryz.underlying144' hn2 hkl (v := .agg #[.bool (saysD L k)]) rfl
    have hx4 : Boxed W4 n0 146 (.bool (saysD L k)) := (hgr.block n0 hx3.lt (fun e => by have := Option.some.inj e; have := lo.m2; omega)).trans hx3
    have t4 : TurnC (fun b => b = m2) (fun b => b = m2) w3 W4 := ⟨hgr.os, hgr.tape, hgr.output, hgr.size, fun b hb hc => hgr.block b hb (fun e => hc (Option.some.inj e)), fun _ q => .inl q⟩
    have tt : TurnC (fun b => b = m1 ∨ b = m2) (fun b => b = m1 ∨ b = m2) W W4 := ⟨t4.os.trans (t3.os.trans (ht2.os.trans HB1.out.os)), t4.tape.trans (t3.tape.trans (ht2.tape.trans HB1.out.tape)), t4.output.trans (t3.output.trans (ht2.output.trans HB1.out.output)), Nat.le_trans HB1.out.size (Nat.le_trans ht2.size (Nat.le_trans t3.size t4.size)), fun b hb hc => by
      have h1 := HB1.out.block b hb
      have z1 := HB1.out.size
      have h2 := ht2.block b (by omega) (fun e => hc (.inl e))
      have z2 := ht2.size
      have h3 := t3.block b (by omega) (by have := HN.out; omega)
      have z3 := t3.size
      exact ((t4.block b (by omega) (fun e => hc (.inr e))).trans h3).trans (h2.trans h1), fun _ q => .inl q⟩
    have HF := hide (And.intro (he3.put2 hgr hmm) tt)
    have d0 := hx2.cell
    have f0 := hx2.frozen
    have d1 := he3.xa2.cell
    have d3 := hx3.cell
    have d4 := hx4.cell
    rw [← hw3] at d1 d3 hup
    clear t3 t4 he3 hmm hgr hx2 hx3 hx4 he2 ht2 hw3 HB1 HX1 HW1 HN hA tt
    go_wp2
    go_ret
    exact ⟨rfl, ⟨n', hn', HF.out.1⟩, HF.out.2⟩
  · have HB : Hid (Below W.heap.size W (W.alloc (.cells #[.bool (saysD L k)] 146))) := (Below.refl _ _).alloc (Nat.le_refl _) _
    have HE := hide h
    clear h
    go_enter Tryz.func85, Tryz.ntmps85
    go_wp2
    go_ret
    have he := HE.out.below HB.out
    exact ⟨rfl, ⟨n1, by omega, { he with map2 := by obtain ⟨D, q1, q2⟩ := he.map2; exact ⟨D, q1.mono (Nat.le_succ _), q2⟩ }⟩, .of_below HB.out⟩
end
end Go.Proofs.YtfemboojdablhaaGreatDoor
namespace Go.Proofs.YtfemboojdablhaaGreatDoor
open Go.RowKit Go.Shelf Go.Maps
open Tre (NodeD NodeRow dirD Sn)
attribute [local go_sem] Oper.semAt_some
section
variable {S S0 : Nat → Prop} {L : List NodeD} {g cap D bl br ba1 bk1 ba2 bk2 m1 m2 : Nat} {a6 a2 a4 : Addr} {n n1 n2 : Nat} {W A A' : World}
structure AkI (S0 : Nat → Prop) (L : List NodeD) (g cap D bl br ba1 bk1 ba2 bk2 m1 m2 : Nat) (a6 a2 a4 : Addr) (n n2 : Nat) (W : World) (bo n0 : Nat) (res : Bool) (C : Nat → Prop) (A : World) : Prop where
  cs : ∀ b, C b → (b = m1 ∨ b = m2 ∨ b = n0 ∨ n0 + 3 ≤ b)
  c1 : C m1
  c2 : C m2
  c3 : C n0
  clt : ∀ b, C b → b < A.heap.size
  env : Env (fun b => S0 b ∨ b = n0 ∨ (n0 ≤ b ∧ ¬ C b)) L g cap D bl br ba1 bk1 ba2 bk2 m1 m2 a6 a2 a4 n n2 A
  b0 : Boxed A n0 4 (.bool res)
  bo : Boxed A bo 75 (.func (.func 85) #[] #[.pointer (some ⟨ba2, 0, none⟩), .pointer (some ⟨bk2, 0, none⟩)])
  t : TurnC (fun b => b = m1 ∨ b = m2) C W A
theorem akI_keep {res : Bool} {bo n0 N : Nat} {C : Nat → Prop} (lo : Lows D bl br ba1 bk1 ba2 bk2 m1 m2 n0) (hbo : bo < n0) (hW : W.heap.size = n0) (hN : n0 + 3 ≤ N) (h : AkI S0 L g cap D bl br ba1 bk1 ba2 bk2 m1 m2 a6 a2 a4 n n2 W bo n0 res C A) (hk : KeepC N C A A') : AkI S0 L g cap D bl br ba1 bk1 ba2 bk2 m1 m2 a6 a2 a4 n n2 W bo n0 res C A' :=
  ⟨h.cs, h.c1, h.c2, h.c3, fun b q => Nat.lt_of_lt_of_le (h.clt b q) hk.size, h.env.keepK (K := fun b => b < n0 ∨ C b) lo hk.os hk.tape hk.output hk.size (fun b hb q => hk.block b hb (q.imp (fun q => by omega) id)) (fun b q => .inl q) (fun b _ q => by
    by_cases hb : b < n0
    · exact .inl hb
    · refine .inr (Classical.byContradiction fun hc => q (.inr (.inr ⟨by omega, hc⟩)))),
    boxed_keepN h.b0 hk (by omega), boxed_keepN h.bo hk (by omega), h.t.keepN hk (by omega)⟩
theorem AkI.set {res : Bool} {bo n0 : Nat} {C : Nat → Prop} (lo : Lows D bl br ba1 bk1 ba2 bk2 m1 m2 n0) (hbo : bo < n0) (h : AkI S0 L g cap D bl br ba1 bk1 ba2 bk2 m1 m2 a6 a2 a4 n n2 W bo n0 res C A) (r : Bool) : AkI S0 L g cap D bl br ba1 bk1 ba2 bk2 m1 m2 a6 a2 a4 n n2 W bo n0 r C (A.setCell ⟨n0, 0, none⟩ (.bool r)) := by
  have t1 : TurnC C C A (A.setCell ⟨n0, 0, none⟩ (.bool r)) := .setCell _ _ _ h.c3
  exact ⟨h.cs, h.c1, h.c2, h.c3, fun b q => Nat.lt_of_lt_of_le (h.clt b q) t1.size, h.env.keepK (K := fun b => b ≠ n0) lo rfl rfl rfl t1.size (fun b _ q => Below.heap_setCell _ _ _ b q) (fun b q => by omega) (fun b _ q e => q (.inr (.inl e))), h.b0.set _, h.bo.other (by omega) _, h.t.trans t1⟩
theorem AkI.next {res : Bool} {bo n0 n' : Nat} {C : Nat → Prop} (lo : Lows D bl br ba1 bk1 ba2 bk2 m1 m2 n0) (hs : S0 m1 ∧ S0 m2) (hS0 : ∀ b, S0 b → b < n0) (hbm : bo ≠ m1 ∧ bo ≠ m2) (h : AkI S0 L g cap D bl br ba1 bk1 ba2 bk2 m1 m2 a6 a2 a4 n n2 W bo n0 res C A) (hz : n0 + 3 ≤ A.heap.size) (hW : W.heap.size = n0) (he : Env (fun b => (S0 b ∨ b = n0 ∨ (n0 ≤ b ∧ ¬ C b)) ∧ b < A.heap.size) L g cap D bl br ba1 bk1 ba2 bk2 m1 m2 a6 a2 a4 n' (n2 + 1) A') (ht : TurnC (fun b => b = m1 ∨ b = m2) (fun b => b = m1 ∨ b = m2) A A') :
    AkI S0 L g cap D bl br ba1 bk1 ba2 bk2 m1 m2 a6 a2 a4 n' (n2 + 1) W bo n0 res (fun b => C b ∨ (A.heap.size ≤ b ∧ b < A'.heap.size)) A' ∧ TurnC C (fun b => C b ∨ (A.heap.size ≤ b ∧ b < A'.heap.size)) A A' := by
  have l1 := lo.m1
  have l2 := lo.m2
  have hz' := ht.size
  refine ⟨⟨fun b q => ?_, .inl h.c1, .inl h.c2, .inl h.c3, fun b q => ?_, he.less (.inl ?_) (.inl ?_) (fun b hb q => ?_), boxed_turn ht h.b0 (by omega), boxed_turn ht h.bo (by omega), ⟨ht.os.trans h.t.os, ht.tape.trans h.t.tape, ht.output.trans h.t.output, Nat.le_trans h.t.size ht.size, fun b hb hc => (ht.block b (Nat.lt_of_lt_of_le hb h.t.size) hc).trans (h.t.block b hb hc), fun b q => ?_⟩⟩, ⟨ht.os, ht.tape, ht.output, ht.size, fun b hb hc => ht.block b hb (fun e => hc (by rcases e with rfl | rfl; exact h.c1; exact h.c2)), fun b q => ?_⟩⟩
  · rcases q with q | q
    · exact h.cs b q
    · exact .inr (.inr (.inr (by omega)))
  · rcases q with q | q
    · exact Nat.lt_of_lt_of_le (h.clt b q) hz'
    · exact q.2
  · exact hs.1
  · exact hs.2
  · refine ⟨?_, ?_⟩
    · rcases q with q | q | q
      · exact .inl q
      · exact .inr (.inl q)
      · exact .inr (.inr ⟨q.1, fun e => q.2 (.inl e)⟩)
    · rcases q with q | q | q
      · have := hS0 b q; omega
      · omega
      · exact Classical.byContradiction fun e => q.2 (.inr ⟨by omega, hb⟩)
  · rcases q with q | q
    · exact h.t.new b q
    · exact .inr (by omega)
  · rcases q with q | q
    · exact .inl q
    · exact .inr q.1
set_option maxRecDepth 100000 in
set_option maxHeartbeats 8000000 in
theorem ask3_any (h : Env S0 L g cap D bl br ba1 bk1 ba2 bk2 m1 m2 a6 a2 a4 n1 n2 W) (hn : n1 ≤ 50000000) (hn2 : n2 ≤ 50000000) (hT : TOK L) (k : Nat) (hlt : k < L.length) (hS0 : ∀ b, S0 b → b < W.heap.size) (bo : Nat) (hbo : Boxed W bo 75 (.func (.func 85) #[] #[.pointer (some ⟨ba2, 0, none⟩), .pointer (some ⟨bk2, 0, none⟩)])) (hbm : bo ≠ m1 ∧ bo ≠ m2) :
    Calls Tryz.prog 56 #[.int .i64 (k : Int), .pointer (some ⟨bl, 0, none⟩), .pointer (some ⟨bo, 0, none⟩)] W fun e w' => e = .returned (.bool (ignD L k)) ∧ TurnC (fun b => b = m1 ∨ b = m2) (fun b => b = m1 ∨ b = m2) W w' ∧ ∃ n' n'', Env S0 L g cap D bl br ba1 bk1 ba2 bk2 m1 m2 a6 a2 a4 n' n'' w' := by
  obtain ⟨n0, hn0⟩ : ∃ n0, W.heap.size = n0 := ⟨_, rfl⟩
  have lo := h.lows
  have hs : S0 m1 ∧ S0 m2 := ⟨h.s1, h.s2⟩
  rw [hn0] at hS0 lo
  have hbo0 : bo < n0 := by rw [← hn0]; exact hbo.lt
  have hkI : ¬ ((L.length : Int) ≤ (k : Int)) := by omega
  have hkI2 : ¬ ((k : Int) < 0) := by omega
  have hdm := dirs_small hT hlt
  obtain ⟨nd, hk⟩ : ∃ nd, L[k]? = some nd := ⟨_, List.getElem?_eq_getElem hlt⟩
  have c0 : (W.alloc (.cells #[.bool false] 4)).cell? ⟨bl, 0, none⟩ = some (.slice (some ⟨g, 0, none⟩) L.length cap) := (((Below.refl _ W).alloc (Nat.le_refl _) _).cell (p := ⟨bl, 0, none⟩) (by show bl < W.heap.size; exact h.xl.lt)).trans h.xl.cell
  have HE := hide h
  have HBO := hide hbo
  clear h hbo
  refine (callsIn_wide (n := 0)).1 ?_
  refine callsIn_of_wp_marks Tryz.func56 rfl trivial ?_ rfl
  simp only [Tryz.ntmps56, List.size_toArray, List.length_cons, List.length_nil, Nat.reduceAdd, Nat.reduceSub, Array.replicate_succ, Array.replicate_zero, List.push_toArray, List.append_toArray, List.nil_append, List.cons_append]
  gi_wp2_with fail
  refine ⟨trivial, rfl, CallsIn.mono (callsIn_wide.2 (dirs_any _ _ _ _ _)) ?_⟩
  rintro e w' ⟨rfl, hw⟩
  rw [hw]
  clear hw w' c0
  gi_wp2_with fail
  obtain ⟨w1, hw1⟩ : ∃ w1, lay W [.cells #[.bool false] 4, .cells #[.slice (some ⟨g, 0, none⟩) L.length cap] 31, .cells #[.int .i64 (k : Int)] 3] = w1 := ⟨_, rfl⟩
  obtain ⟨z1, l1, f1⟩ := lay_facts [.cells #[.bool false] 4, .cells #[.slice (some ⟨g, 0, none⟩) L.length cap] 31, .cells #[.int .i64 (k : Int)] 3] W
  rw [hw1] at z1 l1 f1
  rw [hn0] at z1 l1 f1
  simp only [lay] at hw1
  rw [hw1]
  clear hw1
  replace z1 : w1.heap.size = n0 + 3 := z1
  have q0 : Boxed w1 n0 4 (.bool false) := f1 0 _ rfl
  have q1 : Boxed w1 (n0 + 1) 31 (.slice (some ⟨g, 0, none⟩) L.length cap) := f1 1 _ rfl
  have q2 : Boxed w1 (n0 + 2) 3 (.int .i64 (k : Int)) := f1 2 _ rfl
  clear f1
  have hE1 := (HE.out.less (S' := fun b => S0 b ∨ b = n0 ∨ (n0 ≤ b ∧ ¬ (b = m1 ∨ b = m2 ∨ b = n0))) (.inl hs.1) (.inl hs.2) (fun b hb q => by
      rcases q with q | q | q
      · exact q
      · omega
      · omega)).below (by rw [hn0]; exact l1)
  have l1' := lo.m1
  have l2' := lo.m2
  have ht0 : TurnC (fun b => b = m1 ∨ b = m2) (fun b => b = m1 ∨ b = m2 ∨ b = n0) W w1 := ⟨l1.os, l1.tape, l1.output, l1.size, fun b hb _ => l1.block b (by omega), fun b q => by
    rcases q with rfl | rfl | rfl
    · exact .inl (.inl rfl)
    · exact .inl (.inr rfl)
    · exact .inr (by omega)⟩
  have hI0 : AkI S0 L g cap D bl br ba1 bk1 ba2 bk2 m1 m2 a6 a2 a4 n1 n2 W bo n0 false (fun b => b = m1 ∨ b = m2 ∨ b = n0) w1 := ⟨fun b q => by
    rcases q with q | q | q
    · exact .inl q
    · exact .inr (.inl q)
    · exact .inr (.inr (.inl q)), .inl rfl, .inr (.inl rfl), .inr (.inr rfl), fun b q => by omega, hE1, q0, boxed_below HBO.out l1 hbo0, ht0⟩
  have fin : ∀ (C : Nat → Prop) (A A' : World) (n n' : Nat) (res : Bool), AkI S0 L g cap D bl br ba1 bk1 ba2 bk2 m1 m2 a6 a2 a4 n n' W bo n0 res C A → (A'.os = A.os ∧ A'.tape = A.tape ∧ A'.output = A.output ∧ A.heap.size ≤ A'.heap.size ∧ ∀ b, b < n0 → b ≠ m1 → b ≠ m2 → A'.heap[b]? = A.heap[b]?) → TurnC (fun b => b = m1 ∨ b = m2) (fun b => b = m1 ∨ b = m2) W A' := fun C A A' n n' res q ⟨r1, r2, r3, r4, r5⟩ =>
    ⟨r1.trans q.t.os, r2.trans q.t.tape, r3.trans q.t.output, Nat.le_trans q.t.size r4, fun b hb hc => (r5 b (by omega) (fun e => hc (.inl e)) (fun e => hc (.inr e))).trans (q.t.block b hb hc), fun _ q => .inl q⟩
  refine range_out (gf := 89) (lb := #[.pointer (some ⟨n0 + 1 + 1, 0, none⟩), .pointer (some ⟨n0 + 1, 0, none⟩)]) rfl (enters_of Tryz.func89 (by kernel_rfl) rfl) (dirs_hands L hT (some ⟨g, 0, none⟩) cap D (n0 + 2) (n0 + 1) k hlt) (fun _ => rfl)
    (fun b => b = m1 ∨ b = m2 ∨ b = n0) (fun pre C A => (∃ n', n' ≤ n1 + 201 * pre.length ∧ AkI S0 L g cap D bl br ba1 bk1 ba2 bk2 m1 m2 a6 a2 a4 n' (n2 + pre.length) W bo n0 false C A) ∧ ∀ x ∈ pre, saysD L x.1 = false) (fun C A => ∃ n' n'', AkI S0 L g cap D bl br ba1 bk1 ba2 bk2 m1 m2 a6 a2 a4 n' n'' W bo n0 (ignD L k) C A)
    (fun pre => ⟨fun C A ⟨⟨_, _, q⟩, _⟩ => q.clt, fun C A A' ⟨⟨n', h', q⟩, q2⟩ hk => ⟨⟨n', h', akI_keep lo hbo0 hn0 (by omega) q hk⟩, q2⟩⟩) ⟨fun C A ⟨_, _, q⟩ => q.clt, fun C A A' ⟨n', n'', q⟩ hk => ⟨n', n'', akI_keep lo hbo0 hn0 (by omega) q hk⟩⟩
    ⟨⟨n1, by simp, hI0⟩, fun x q => (by cases q)⟩ (fun W' hB => ⟨boxed_below q2 hB (by omega), boxed_below q1 hB (by omega), hE1.row.below (hB.mono (by have := lo.d; omega)), fun j q => by
      have := HE.out.dl
      have := lo.d
      omega, fun q => by omega, fun q => by omega, by have := lo.d; have := hB.size; omega⟩) (fun _ _ _ _ _ _ => trivial) ?round ?done ?stop
  case round =>
    clear q0 q1 q2 hE1 ht0 hI0
    rintro l2 pre ⟨up, way⟩ C Wx hl2 hrec hCl2 hpre ⟨⟨n', hn', hI⟩, hno⟩
    obtain ⟨_, nu, hnu, _⟩ := hdm.2 _ (mem_of_pre hpre)
    dsimp only at hnu
    have hpl := len_of_pre hpre
    have hpl2 := hdm.1
    simp only [encDir]
    gi_wp2
    refine ⟨Below.refl _ _, fun W2 hsw => ?_⟩
    have hI2 := akI_keep lo hbo0 hn0 (N := w1.heap.size) (by omega) hI (hsw.keep hl2 hCl2)
    obtain ⟨r₀, hr₀⟩ := hsw.record
    have hl2z := (Array.getElem?_eq_some_iff.1 hr₀).1
    clear hI hsw hrec hr₀
    have hM := memo2_any (hI2.env.less (S' := fun b => (S0 b ∨ b = n0 ∨ (n0 ≤ b ∧ ¬ C b)) ∧ b < W2.heap.size) ⟨.inl hs.1, by omega⟩ ⟨.inl hs.2, by omega⟩ (fun b _ q => q.1)) (by omega) (by omega) hT up nu hnu (fun b q => q.2)
    have c0 := hI2.bo.cell
    gi_wp2_with fail
    refine ⟨trivial, rfl, CallsIn.mono (CallsIn.inRound l2 (callsIn_wide.2 hM)) ?_⟩
    rintro e A3 ⟨rfl, ⟨n3, hn3, he3⟩, ht3⟩
    obtain ⟨hI3, hT3⟩ := hI2.next lo hs hS0 hbm (by omega) hn0 he3 ht3
    have k0 := hI3.b0.cell
    have f0 := hI3.b0.frozen
    clear hM c0 he3 ht3
    cases hsy : saysD L up
    · gi_wp2
      refine ⟨_, hT3, ⟨n3, ?_, ?_⟩, ?_⟩
      · rw [List.length_append, List.length_singleton]; omega
      · rw [List.length_append, List.length_singleton, ← Nat.add_assoc]; exact hI3
      · intro x y q
        rcases List.mem_append.1 q with q | q
        · exact hno (x, y) q
        · have e := List.mem_singleton.1 q
          injection e with e1 e2
          rw [e1]; exact hsy
    · gi_wp2
      have hig : ignD L k = true := by
        unfold ignD
        rw [Bool.or_eq_true]
        exact .inl (List.any_eq_true.2 ⟨(up, way), mem_of_pre hpre, hsy⟩)
      rw [hig]
      exact ⟨_, hT3.trans (TurnC.setCell _ _ _ hI3.c3), n3, _, hI3.set lo hbo0 true⟩
  case done =>
    rintro C Wx hz hC ⟨⟨n', hn', hI⟩, hno⟩ hK
    have hpl2 := hdm.1
    have hig : ignD L k = saysD L k := by
      unfold ignD
      have e : (dirsK L k).any (fun d => saysD L d.1) = false := by
        rw [List.any_eq_false]
        intro x hx
        rw [hno x hx]; decide
      rw [e, Bool.false_or]
    have hM := memo2_any (hI.env.less (S' := fun b => (S0 b ∨ b = n0 ∨ (n0 ≤ b ∧ ¬ C b)) ∧ b < Wx.heap.size) ⟨.inl hs.1, by omega⟩ ⟨.inl hs.2, by omega⟩ (fun b _ q => q.1)) (by omega) (by omega) hT k nd hk (fun b q => q.2)
    have c0 := hI.bo.cell
    have HI := hide hI
    have HK := hide hK
    clear hI hK hno
    gi_wp2_with fail
    refine ⟨trivial, rfl, CallsIn.mono (callsIn_wide.2 hM) ?_⟩
    rintro e A3 ⟨rfl, ⟨n3, hn3, he3⟩, ht3⟩
    have HE3 := hide he3
    clear he3
    have hb3 : Boxed A3 n0 4 (.bool false) := boxed_turn ht3 HI.out.b0 (by omega)
    have hK3 : A3.heap[w1.heap.size]? = some (.deferred (some [])) := (ht3.block _ (Array.getElem?_eq_some_iff.1 HK.out).1 (by omega)).trans HK.out
    have k3 := hb3.cell
    have f3 := hb3.frozen
    have HB3 := hide hb3
    have HK3 := hide hK3
    have HT3 := hide ht3
    have hz3 := ht3.size
    clear hb3 hK3 ht3 hM c0
    gi_wp2
    have hK4 := HK3.out
    rw [z1] at hK4
    have hx2 := (boxed_put (D := n0 + 3) (o := .deferred none) (HB3.out.set (.bool (saysD L k))) (by omega)).cell
    refine leave_ret (def_set hK4 (by omega)) (v := .bool (ignD L k)) ?_ ⟨rfl, fin C Wx _ n' _ _ HI.out ⟨HT3.out.os, HT3.out.tape, HT3.out.output, by simp; omega, fun b h1 h2 h3 => (World.putObj_heap_other (by omega)).trans ((Below.heap_setCell _ _ _ b (by show b ≠ n0; omega)).trans (HT3.out.block b (by omega) (by omega)))⟩, n3, _, (HE3.out.keepK (A' := (A3.setCell ⟨n0, 0, none⟩ (.bool (saysD L k))).putObj (n0 + 3) (.deferred none)) (K := fun b => b ≠ n0 ∧ b ≠ n0 + 3) lo rfl rfl rfl (by simp) (fun b hb q => (World.putObj_heap_other q.2).trans (Below.heap_setCell _ _ _ b (by show b ≠ n0; exact q.1))) (fun b q => ⟨by omega, by omega⟩) (fun b hb q => ⟨fun e => q ⟨.inr (.inl e), by omega⟩, fun e => q ⟨.inr (.inr ⟨by omega, by rw [e, ← z1]; exact hC⟩), by omega⟩⟩)).less hs.1 hs.2 (fun b hb q => ⟨.inl q, by have := hS0 b q; omega⟩)⟩
    rw [hig]
    simp [results, Tryz.results56, go_sem, hx2]
  case stop =>
    rintro C Wx hz hC ⟨n', n'', hI⟩ hK
    have hx2 := (boxed_put (D := w1.heap.size) (o := .deferred none) hI.b0 (by omega)).cell
    refine leave_ret hK (v := .bool (ignD L k)) ?_ ⟨rfl, fin C Wx _ n' n'' _ hI ⟨rfl, rfl, rfl, by simp, fun b h1 _ _ => World.putObj_heap_other (by omega)⟩, n', n'', (hI.env.keepK (A' := Wx.putObj w1.heap.size (.deferred none)) (K := fun b => b ≠ w1.heap.size) lo rfl rfl rfl (by simp) (fun b hb q => World.putObj_heap_other q) (fun b q => by omega) (fun b hb q e => q (.inr (.inr ⟨by omega, by rw [e]; exact hC⟩)))).less hs.1 hs.2 (fun b hb q => .inl q)⟩
    simp [results, Tryz.results56, go_sem, hx2]
end
end Go.Proofs.YtfemboojdablhaaGreatDoor
namespace Go.Proofs.YtfemboojdablhaaGreatDoor
open Go.RowKit Go.Shelf Go.Maps
open Tre (NodeD NodeRow dirD Sn)
open Go.ChangeMaps Go.MapKept
attribute [local go_sem] Oper.semAt_some
set_option maxRecDepth 100000 in
set_option maxHeartbeats 2000000 in
theorem answers1_any (f : Fn) (xs ys : Array Value) (w : World) : Calls Tryz.prog 50 #[.func f xs ys] w fun e w' => e = .returned (.func (.func 83) #[] #[.pointer (some ⟨w.heap.size + 1 + 1, 0, none⟩), .pointer (some ⟨w.heap.size, 0, none⟩)]) ∧ w' = ((w.alloc (.cells #[.func f xs ys] 108)).alloc (.map #[] 0)).alloc (.cells #[.map (some (w.heap.size + 1))] 139) := by
  have hmk : ∀ w, (Instr.makeMap 139 none).run Tryz.prog w = .ok (.map (some w.heap.size)) (w.alloc (.map #[] 0)) := fun w => by kernel_rfl
  go_enter Tryz.func50, Tryz.ntmps50
  go_wp2
  go_ret
  exact ⟨rfl, rfl⟩
set_option maxRecDepth 100000 in
set_option maxHeartbeats 2000000 in
theorem answers2_any (f : Fn) (xs ys : Array Value) (w : World) : Calls Tryz.prog 53 #[.func f xs ys] w fun e w' => e = .returned (.func (.func 85) #[] #[.pointer (some ⟨w.heap.size + 1 + 1, 0, none⟩), .pointer (some ⟨w.heap.size, 0, none⟩)]) ∧ w' = ((w.alloc (.cells #[.func f xs ys] 75)).alloc (.map #[] 0)).alloc (.cells #[.map (some (w.heap.size + 1))] 144) := by
  have hmk : ∀ w, (Instr.makeMap 144 none).run Tryz.prog w = .ok (.map (some w.heap.size)) (w.alloc (.map #[] 0)) := fun w => by kernel_rfl
  go_enter Tryz.func53, Tryz.ntmps53
  go_wp2
  go_ret
  exact ⟨rfl, rfl⟩
def askL (n0 : Nat) (v : Value) : List Obj :=
  [.cells #[v] 31, .cells #[.func (.func 51) #[] #[.pointer (some ⟨n0, 0, none⟩)]] 108, .map #[] 0, .cells #[.map (some (n0 + 1 + 1))] 139,
   .cells #[.func (.func 83) #[] #[.pointer (some ⟨n0 + 1 + 1 + 1, 0, none⟩), .pointer (some ⟨n0 + 1, 0, none⟩)]] 108,
   .cells #[.func (.func 54) #[] #[.pointer (some ⟨n0, 0, none⟩), .pointer (some ⟨n0 + 1 + 1 + 1 + 1, 0, none⟩)]] 75, .map #[] 0, .cells #[.map (some (n0 + 1 + 1 + 1 + 1 + 1 + 1))] 144,
   .cells #[.func (.func 85) #[] #[.pointer (some ⟨n0 + 1 + 1 + 1 + 1 + 1 + 1 + 1, 0, none⟩), .pointer (some ⟨n0 + 1 + 1 + 1 + 1 + 1, 0, none⟩)]] 75]
set_option maxRecDepth 100000 in
set_option maxHeartbeats 4000000 in
theorem asker_any (a : Option Addr) (n c : Nat) (w : World) : Calls Tryz.prog 30 #[.slice a n c] w fun e w' => e = .returned (.func (.func 56) #[] #[.pointer (some ⟨w.heap.size, 0, none⟩), .pointer (some ⟨w.heap.size + 8, 0, none⟩)]) ∧ w' = lay w (askL w.heap.size (.slice a n c)) := by
  obtain ⟨n0, hn0⟩ : ∃ n0, w.heap.size = n0 := ⟨_, rfl⟩
  go_enter Tryz.func30, Tryz.ntmps30
  go_wp2_with fail
  refine (answers1_any _ _ _ _).mono ?_
  rintro e w' ⟨rfl, hw⟩
  rw [hw]
  clear hw w'
  go_wp2_with fail
  refine (answers2_any _ _ _ _).mono ?_
  rintro e w' ⟨rfl, hw⟩
  rw [hw]
  clear hw w'
  go_wp2
  go_ret
  refine ⟨?_, ?_⟩
  · simp [hn0]
  · simp [askL, lay, hn0]
set_option maxRecDepth 100000 in
set_option maxHeartbeats 4000000 in
theorem ignored_any (a6 a2 a4 : Addr) (C g cap : Nat) (L : List NodeD) (hT : TOK L) (k : Nat) (hlt : k < L.length) (w : World) (hG : GW w) (hS : Sn C a6 a2 a4 w) (h10 : 14 ≤ C) (hrow : NodeRow C w (.slice (some ⟨g, 0, none⟩) L.length cap) L) (hC : C ≤ w.heap.size) :
    Calls Tryz.prog 17 #[.slice (some ⟨g, 0, none⟩) L.length cap, .int .i64 (k : Int)] w fun e w' => e = .returned (.bool (ignD L k)) ∧ Below w.heap.size w w' := by
  obtain ⟨n0, hn0⟩ : ∃ n0, w.heap.size = n0 := ⟨_, rfl⟩
  obtain ⟨z1, l1, f1⟩ := lay_facts (askL w.heap.size (.slice (some ⟨g, 0, none⟩) L.length cap)) w
  have hAs := asker_any (some ⟨g, 0, none⟩) L.length cap w
  obtain ⟨W, hW⟩ : ∃ W, lay w (askL w.heap.size (.slice (some ⟨g, 0, none⟩) L.length cap)) = W := ⟨_, rfl⟩
  rw [hW] at hAs z1 l1 f1
  rw [hn0] at hAs z1 l1 f1 hC
  replace z1 : W.heap.size = n0 + 9 := z1
  have e0 : Boxed W n0 31 (.slice (some ⟨g, 0, none⟩) L.length cap) := f1 0 _ rfl
  have e1 : Boxed W (n0 + 1) 108 (.func (.func 51) #[] #[.pointer (some ⟨n0, 0, none⟩)]) := f1 1 _ rfl
  have e2 : W.heap[n0 + 2]? = some (.map #[] 0) := f1 2 _ rfl
  have e3 : Boxed W (n0 + 3) 139 (.map (some (n0 + 2))) := f1 3 _ rfl
  have e4 : Boxed W (n0 + 4) 108 (.func (.func 83) #[] #[.pointer (some ⟨n0 + 3, 0, none⟩), .pointer (some ⟨n0 + 1, 0, none⟩)]) := f1 4 _ rfl
  have e5 : Boxed W (n0 + 5) 75 (.func (.func 54) #[] #[.pointer (some ⟨n0, 0, none⟩), .pointer (some ⟨n0 + 4, 0, none⟩)]) := f1 5 _ rfl
  have e6 : W.heap[n0 + 6]? = some (.map #[] 0) := f1 6 _ rfl
  have e7 : Boxed W (n0 + 7) 144 (.map (some (n0 + 6))) := f1 7 _ rfl
  have e8 : Boxed W (n0 + 8) 75 (.func (.func 85) #[] #[.pointer (some ⟨n0 + 7, 0, none⟩), .pointer (some ⟨n0 + 5, 0, none⟩)]) := f1 8 _ rfl
  have memo0 : ∀ (b : Nat) (Ok : Nat → Value → Prop), W.heap[b]? = some (.map #[] 0) → Memo b 0 Ok W := fun b Ok hb =>
    ⟨.map [], ⟨#[], 0, hb, ⟨by simp, stamped_empty 0, by simp⟩, Nat.le_refl _, rfl⟩, few_empty, isMap_empty, fun k h => by cases h⟩
  have hE : Env (fun b => b = n0 + 2 ∨ b = n0 + 6) L g cap C n0 (n0 + 4) (n0 + 3) (n0 + 1) (n0 + 7) (n0 + 5) (n0 + 2) (n0 + 6) a6 a2 a4 0 0 W :=
    ⟨hrow.below (l1.mono (by omega)), hG.below (by rw [hn0]; exact l1), hS.below (l1.mono (by omega)) h10, h10, .inl rfl, .inr rfl, by omega, by omega, by omega, e0, e4, e3, e1, e7, e5, memo0 _ _ e2, memo0 _ _ e6⟩
  have hA3 := ask3_any hE (by omega) (by omega) hT k hlt (fun b q => by omega) (n0 + 8) e8 ⟨by omega, by omega⟩
  have HL := hide l1
  clear f1 e0 e1 e2 e3 e4 e5 e6 e7 e8 memo0 hE l1 hrow hS hG
  go_enter Tryz.func17, Tryz.ntmps17
  go_wp2_with fail
  refine hAs.mono ?_
  rintro e w' ⟨rfl, hw⟩
  rw [hw]
  clear hw w' hAs
  go_wp2_with fail
  refine hA3.mono ?_
  rintro e w2 ⟨rfl, ht, _⟩
  have HB : Hid (Below n0 w w2) := HL.out.trans (turn_below ht (fun b q => by omega) (by omega))
  clear ht hA3
  go_wp2
  go_ret
  exact ⟨rfl, by rw [hn0]; exact HB.out⟩
end Go.Proofs.YtfemboojdablhaaGreatDoor
namespace Go.Proofs.YtfemboojdablhaaGreatDoor.Tre
open Go.RowKit Go.Shelf
def WkO (W : World) (b : Nat) (nv : Value) (deep : Bool) (mn mx ms : Int) (wv iv mv av : Value) (gone : Int) (pv bv tv : Value) : Prop :=
  W.heap[b]? = some (.cells #[nv, .bool false, .bool deep, .int .i64 mn, .int .i64 mx, .int .i64 ms, wv, iv, mv, av, .int .i64 gone, pv, bv, tv] 91 (0, 0))
theorem WkO.shape {W : World} {b : Nat} {nv : Value} {deep : Bool} {mn mx ms : Int} {wv iv mv av : Value} {gone : Int} {pv bv tv : Value} (h : WkO W b nv deep mn mx ms wv iv mv av gone pv bv tv) : W.shape? b = some (91, 14) := by
  unfold WkO at h
  simp [World.shape?, h]
theorem WkO.cell {W : World} {b : Nat} {nv : Value} {deep : Bool} {mn mx ms : Int} {wv iv mv av : Value} {gone : Int} {pv bv tv : Value} (h : WkO W b nv deep mn mx ms wv iv mv av gone pv bv tv) (i : Nat) : W.cell? ⟨b, i, none⟩ = #[nv, .bool false, .bool deep, .int .i64 mn, .int .i64 mx, .int .i64 ms, wv, iv, mv, av, .int .i64 gone, pv, bv, tv][i]? := by
  unfold WkO at h
  simp [World.cell?, h]
theorem WkO.frozen {W : World} {b : Nat} {nv : Value} {deep : Bool} {mn mx ms : Int} {wv iv mv av : Value} {gone : Int} {pv bv tv : Value} (h : WkO W b nv deep mn mx ms wv iv mv av gone pv bv tv) (i : Nat) : W.frozen? ⟨b, i, none⟩ = false := Lib.frozen_of_heap h i
theorem WkO.lt {W : World} {b : Nat} {nv : Value} {deep : Bool} {mn mx ms : Int} {wv iv mv av : Value} {gone : Int} {pv bv tv : Value} (h : WkO W b nv deep mn mx ms wv iv mv av gone pv bv tv) : b < W.heap.size := (Array.getElem?_eq_some_iff.1 h).1
theorem Tryz.size89 : (Tryz.prog.info? 89).map (·.size) = some 2 := by kernel_rfl
theorem Tryz.lies89 : liesAt Tryz.prog Tryz.prog.depth 91 (14 / Tryz.prog.cellsOf 91) 11 89 1 = true := by kernel_rfl
set_option maxRecDepth 100000 in
set_option maxHeartbeats 1000000 in
theorem wcopy_used (b : Nat) (w : World) (h0 : w.cell? ⟨b, 11, none⟩ = some (.pointer (some ⟨b, 11, none⟩))) :
    Calls Tryz.prog 115 #[.pointer (some ⟨b, 11, none⟩)] w fun e w' => e = .returned (.tuple #[]) ∧ w' = w := by
  obtain ⟨j, hj, _⟩ := Option.map_eq_some_iff.1 Tryz.size89
  go_enter Tryz.func115, Tryz.ntmps115
  go_wp2
  rw [Lib.run_neq_ptr_same w _ Tryz.underlying86 hj]
  go_wp2
  go_end0
  exact ⟨rfl, rfl⟩
set_option maxRecDepth 100000 in
set_option maxHeartbeats 1000000 in
theorem wcopy_fresh (b : Nat) (w : World) (h0 : w.cell? ⟨b, 11, none⟩ = some (.pointer none)) (hsh : w.shape? b = some (91, 14)) (hfz : w.frozen? ⟨b, 11, none⟩ = false) :
    Calls Tryz.prog 115 #[.pointer (some ⟨b, 11, none⟩)] w fun e w' => e = .returned (.tuple #[]) ∧ w' = w.setCell ⟨b, 11, none⟩ (.pointer (some ⟨b, 11, none⟩)) := by
  obtain ⟨j, hj, hjs⟩ := Option.map_eq_some_iff.1 Tryz.size89
  go_enter Tryz.func115, Tryz.ntmps115
  go_wp2
  rw [Lib.run_to_unsafe w ⟨b, 11, none⟩ Tryz.underlying86 Tryz.underlying200 hj (by rw [hjs]; decide) hsh (show 11 < 14 from by decide)]
  simp only [Result.andThen]
  rw [Oper.upon_value]
  go_wp2
  rw [run_callFunc_extern Tryz.func137 (by kernel_rfl) (by kernel_rfl) (by kernel_rfl) (e := Extern.AbiNoEscape.same) (by kernel_rfl)]
  rw [Lib.run_noEscape]
  simp only [Result.andThen]
  rw [Oper.upon_value]
  go_wp2
  rw [Lib.run_from_unsafe w ⟨b, 11, none⟩ Tryz.underlying200 Tryz.underlying86 hj hsh Tryz.lies89]
  simp only [Result.andThen]
  rw [Oper.upon_value]
  go_wp2
  go_end0
  exact ⟨rfl, rfl⟩
end Go.Proofs.YtfemboojdablhaaGreatDoor.Tre
