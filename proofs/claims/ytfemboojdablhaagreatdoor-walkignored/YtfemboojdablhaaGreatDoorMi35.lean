/- Merged: IbR, IbS. -/
import Derived.Test.YtfemboojdablhaaGreatDoorMi34
namespace Go.Proofs.YtfemboojdablhaaGreatDoor
open Go.RowKit Go.Shelf Go.Maps
open Tre (NodeD NodeRow dirD Sn)
section
variable {S : Nat → Prop} {L : List NodeD} {g cap D bl br ba1 bk1 ba2 bk2 m1 m2 : Nat} {a6 a2 a4 : Addr} {n1 n2 : Nat} {W : World}
theorem RuRow.less {S S' : Nat → Prop} {W : World} {v : Value} {rs : List RuleD} (h : RuRow S' W v rs) (hS : ∀ b, S b → S' b) : RuRow S W v rs := by
  rcases h with h | ⟨g, cap, e, hc, hg, hn, hx⟩
  · exact .inl h
  · exact .inr ⟨g, cap, e, hc, hg, fun q => hn (hS g q), hx⟩
set_option maxRecDepth 100000 in
set_option maxHeartbeats 2000000 in
theorem ask1_any (h : Env S L g cap D bl br ba1 bk1 ba2 bk2 m1 m2 a6 a2 a4 n1 n2 W) (hT : TOK L) (k : Nat) (n : NodeD) (hk : L[k]? = some n) (hdir : dirD n = true) (S' : Nat → Prop) (hS : ∀ b, S' b → b < W.heap.size) :
    Calls Tryz.prog 51 #[.int .i64 (k : Int), .pointer (some ⟨bl, 0, none⟩)] W fun e w' => ∃ a m c, e = .returned (.slice a m c) ∧ RuRow S' w' (.slice a m c) (rulesD L k) ∧ Below W.heap.size W w' := by
  have hD : D ≤ W.heap.size := by have := h.xl.lt; have := h.dl; omega
  have hR := rulesIn_any a6 a2 a4 D g cap L hT k n hk hdir W h.gw h.sn h.d10 h.row hD
  have c0 := h.xl.cell
  go_enter Tryz.func51, Tryz.ntmps51
  go_wp2_with fail
  refine hR.mono ?_
  rintro e w1 ⟨v, rfl, hown, hb⟩
  obtain ⟨va, vc, rfl⟩ : ∃ a c, v = .slice a (rulesD L k).length c := by
    rcases hown.2 with ⟨e, h0⟩ | ⟨g, c, cur, e, _⟩
    · exact ⟨none, 0, by rw [e, show (rulesD L k).length = 0 from h0]⟩
    · exact ⟨_, _, e⟩
  have HU : Hid (RuRow S' w1 (.slice va (rulesD L k).length vc) (rulesD L k)) := RuRow.of_owns hown hS
  have HB := hide hb
  clear hown hb hR
  go_wp2
  go_ret
  exact ⟨_, _, _, rfl, HU.out, HB.out⟩
theorem Tryz.underlying139' : Tryz.prog.underlying 139 = some (.map 3 141) := by kernel_rfl
theorem Tryz.zero141 (W : World) : (zeroValue 141).run Tryz.prog W = .ok (.agg #[.slice none 0 0]) W := by kernel_rfl
set_option maxRecDepth 100000 in
set_option maxHeartbeats 4000000 in
theorem memo1_any (h : Env S L g cap D bl br ba1 bk1 ba2 bk2 m1 m2 a6 a2 a4 n1 n2 W) (hn : n1 ≤ 1000000000) (hT : TOK L) (k : Nat) (n : NodeD) (hk : L[k]? = some n) (hdir : dirD n = true) :
    Calls Tryz.prog 83 #[.int .i64 (k : Int), .pointer (some ⟨ba1, 0, none⟩), .pointer (some ⟨bk1, 0, none⟩)] W fun e w' => ∃ a m c, e = .returned (.slice a m c) ∧ RuRow (fun b => S b ∧ b < W.heap.size) w' (.slice a m c) (rulesD L k) ∧ Env (fun b => S b ∧ b < W.heap.size) L g cap D bl br ba1 bk1 ba2 bk2 m1 m2 a6 a2 a4 (n1 + 1) n2 w' ∧ TurnC (fun b => b = m1) (fun b => b = m1) W w' := by
  have hkl : k ≤ 1000000 := by have := (List.getElem?_eq_some_iff.1 hk).1; have := hT.len; omega
  have c1 := h.xa1.cell
  have c2 := h.xk1.cell
  rcases h.map1.look Tryz.underlying139' (Tryz.zero141 W) hkl with hl | ⟨v, hl, a, m, c, rfl, hru⟩
  · obtain ⟨n0, hn0⟩ : ∃ n0, W.heap.size = n0 := ⟨_, rfl⟩
    obtain ⟨W1, hW1⟩ : ∃ W1, W.alloc (.cells #[.slice none 0 0] 141) = W1 := ⟨_, rfl⟩
    have hb1 : Below W.heap.size W W1 := by rw [← hW1]; exact (Below.refl _ _).alloc (Nat.le_refl _) _
    have hz1 : W1.heap.size = n0 + 1 := by rw [← hW1, ← hn0]; simp
    have hx1 : Boxed W1 n0 141 (.slice none 0 0) := by rw [← hW1, ← hn0]; exact Boxed.new _ _ _
    have he1 := h.below hb1
    have hm1 := h.map1.lt
    have hm2 := h.map2.lt
    have hA := ask1_any he1 hT k n hk hdir (fun b => (S b ∧ b < W.heap.size) ∨ b = n0) (fun b q => by rcases q with q | rfl <;> omega)
    have c2a : (W.alloc (.cells #[.slice none 0 0] 141)).cell? ⟨bk1, 0, none⟩ = some (.func (.func 51) #[] #[.pointer (some ⟨bl, 0, none⟩)]) := by rw [hW1]; exact he1.xk1.cell
    have HE := hide h
    have HB1 := hide hb1
    have HX1 := hide hx1
    have HW1 := hide hW1
    have HN := hide hn0
    clear h hb1 hx1 he1 hW1 c2 hn0
    go_enter Tryz.func83, Tryz.ntmps83
    go_wp2_with fail
    rw [HW1.out]
    refine hA.mono ?_
    rintro e w2 ⟨a, m, c, rfl, hru, hb2⟩
    have hx2 : Boxed w2 n0 141 (.slice none 0 0) := (hb2.block _ (by omega)).trans HX1.out
    rw [HN.out]
    obtain ⟨w3, hw3⟩ : ∃ w3, w2.setCell ⟨n0, 0, none⟩ (.slice a m c) = w3 := ⟨_, rfl⟩
    have hx3 : Boxed w3 n0 141 (.slice a m c) := by rw [← hw3]; exact hx2.set _
    have t3 : TurnC (fun b => b = n0) (fun b => b = n0) w2 w3 := by rw [← hw3]; exact .setCell _ _ _ rfl
    have hb02 : Below W.heap.size W w2 := HB1.out.trans (hb2.mono HB1.out.size)
    have hb03 : Below W.heap.size W w3 := hb02.trans (turn_below t3 (fun b q => by have := HN.out; omega) hb02.size)
    have he3 := (HE.out.below hb03).less (S' := fun b => S b ∧ b < W.heap.size) ⟨HE.out.s1, hm1⟩ ⟨HE.out.s2, hm2⟩ (fun b _ q => q.1)
    have hru3 : RuRow (fun b => S b ∧ b < W.heap.size) w3 (.slice a m c) (rulesD L k) := (hru.turn t3 (fun b _ q => .inr q)).less (fun b q => .inl q)
    obtain ⟨W4, hup, hmm, hgr⟩ := he3.map1.put Tryz.underlying139' hn hkl (v := .agg #[.slice a m c]) ⟨a, m, c, rfl, hru3⟩
    have hx4 : Boxed W4 n0 141 (.slice a m c) := (hgr.block n0 hx3.lt (fun e => by have := Option.some.inj e; have := HN.out; omega)).trans hx3
    have t4 : TurnC (fun b => b = m1) (fun b => b = m1) w3 W4 := ⟨hgr.os, hgr.tape, hgr.output, hgr.size, fun b hb hc => hgr.block b hb (fun e => hc (Option.some.inj e)), fun _ q => .inl q⟩
    have HF : Hid (RuRow (fun b => S b ∧ b < W.heap.size) W4 (.slice a m c) (rulesD L k) ∧ Env (fun b => S b ∧ b < W.heap.size) L g cap D bl br ba1 bk1 ba2 bk2 m1 m2 a6 a2 a4 (n1 + 1) n2 W4 ∧ TurnC (fun b => b = m1) (fun b => b = m1) W W4) := ⟨hru3.turn t4 (fun b _ q => by rw [q]; exact ⟨HE.out.s1, hm1⟩), he3.put1 hgr hmm, (TurnC.of_below hb03).trans t4⟩
    have d0 := hx2.cell
    have f0 := hx2.frozen
    have d1 := he3.xa1.cell
    have d3 := hx3.cell
    have d4 := hx4.cell
    rw [← hw3] at d1 d3 hup
    clear t3 t4 hb02 hb03 he3 hru3 hmm hgr hx2 hx3 hx4 hru hb2 hw3 HE HB1 HX1 HW1 HN hA
    go_wp2
    go_ret
    exact ⟨a, m, c, rfl, HF.out⟩
  · have HB : Hid (Below W.heap.size W (W.alloc (.cells #[.slice a m c] 141))) := (Below.refl _ _).alloc (Nat.le_refl _) _
    have HR := hide hru
    have HE := hide h
    clear h hru
    go_enter Tryz.func83, Tryz.ntmps83
    go_wp2
    go_ret
    have ht : TurnC (fun b => b = m1) (fun b => b = m1) W (W.alloc (.cells #[.slice a m c] 141)) := .of_below HB.out
    have he := HE.out.below HB.out
    have he := he.less (S' := fun b => S b ∧ b < W.heap.size) ⟨HE.out.s1, HE.out.map1.lt⟩ ⟨HE.out.s2, HE.out.map2.lt⟩ (fun b _ q => q.1)
    exact ⟨a, m, c, rfl, (HR.out.turn (TurnC.of_below (C := fun _ => False) HB.out) (fun _ _ q => q.elim)).less (fun b q => q.1), { he with map1 := by obtain ⟨D, q1, q2⟩ := he.map1; exact ⟨D, q1.mono (Nat.le_succ _), q2⟩ }, ht⟩
end
end Go.Proofs.YtfemboojdablhaaGreatDoor
namespace Go.Proofs.YtfemboojdablhaaGreatDoor
open Go.RowKit Go.Shelf Go.Maps
open Tre (NodeD NodeRow dirD Sn)
attribute [local go_sem] Oper.semAt_some
set_option maxHeartbeats 1000000 in
theorem isDir_any (n : NodeD) (w : World) : Calls Tryz.prog 86 #[.int .u8 n.kind] w fun e w' => e = .returned (.bool (dirD n)) ∧ w' = w := by
  have HD : Hid (dirD n = ((n.kind == 100) || (n.kind == 120))) := rfl
  cases h1 : (n.kind == 100)
  · cases h2 : (n.kind == 120)
    all_goals
      go_enter Tryz.func86, Tryz.ntmps86
      go_wp2
      go_ret
      exact ⟨by rw [HD.out, h1, h2]; rfl, rfl⟩
  · go_enter Tryz.func86, Tryz.ntmps86
    go_wp2
    go_ret
    exact ⟨by rw [HD.out, h1]; rfl, rfl⟩
theorem dirs_any (a : Option Addr) (n c : Nat) (k : Int) (w : World) : Calls Tryz.prog 57 #[.slice a n c, .int .i64 k] w fun e w' => e = .returned (.func (.func 89) #[] #[.pointer (some ⟨w.heap.size + 1, 0, none⟩), .pointer (some ⟨w.heap.size, 0, none⟩)]) ∧ w' = (w.alloc (.cells #[.slice a n c] 31)).alloc (.cells #[.int .i64 k] 3) := by
  go_enter Tryz.func57, Tryz.ntmps57
  go_wp2
  go_ret
  exact ⟨rfl, rfl⟩
theorem backR_any (a : Option Addr) (n c : Nat) (w : World) : Calls Tryz.prog 87 #[.slice a n c] w fun e w' => e = .returned (.func (.func 125) #[] #[.pointer (some ⟨w.heap.size, 0, none⟩)]) ∧ w' = w.alloc (.cells #[.slice a n c] 110) := by
  go_enter Tryz.func87, Tryz.ntmps87
  go_wp2
  go_ret
  exact ⟨rfl, rfl⟩
theorem rules_small {L : List NodeD} (hT : TOK L) (d : Nat) : (rulesD L d).length ≤ 20001 ∧ ∀ r ∈ rulesD L d, r.pt.size ≤ 20000 := by
  unfold rulesD
  cases h : L[d]? with
  | none => simp
  | some n =>
    dsimp only
    cases hf : n.kids.find? (Tre.nameIs L ignS) with
    | none => simp
    | some c =>
      dsimp only
      cases hm : L[c]? with
      | none => simp
      | some m =>
        dsimp only
        have ht := hT.text c m hm
        split
        · refine ⟨by have := rules_len m.text; omega, fun r hr => ?_⟩
          obtain ⟨y, hy, he⟩ := List.mem_filterMap.1 hr
          have h1 := cutS_le 10 m.text y hy
          unfold lineR at he
          split at he
          · cases he
          · split at he
            · cases he
            · cases he
              have a := trimP_len (Lib.trimSuffix (Lib.trimPrefix (cutBlanksL y.data.toList) [33]) [47]) [47]
              have b := trimS_len (Lib.trimPrefix (cutBlanksL y.data.toList) [33]) [47]
              have c := trimP_len (cutBlanksL y.data.toList) [33]
              have d := blanks_len y.data.toList
              have e1 : y.data.toList.length = y.size := by rw [Array.length_toList]; rfl
              have e2 : (lineOf (cutBlanksL y.data.toList)).pt.size = (Lib.trimPrefix (Lib.trimSuffix (Lib.trimPrefix (cutBlanksL y.data.toList) [33]) [47]) [47]).length := by
                show (List.toArray _).size = _
                simp
              omega
        · simp
theorem dirs_len {L : List NodeD} : ∀ (f k : Nat) (way : ByteArray), (dirsD L f k way).length ≤ f := by
  intro f
  induction f with
  | zero => intro k way; exact Nat.zero_le _
  | succ f ih =>
    intro k way
    unfold dirsD
    split
    · split
      · rw [List.length_cons]
        split
        · exact Nat.succ_le_succ (ih _ _)
        · simp
      · exact Nat.zero_le _
    · exact Nat.zero_le _
theorem dirs_mem {L : List NodeD} (hT : TOK L) (B : Nat) : ∀ (f k : Nat) (way : ByteArray), way.size + 61 * k ≤ B → ∀ x ∈ dirsD L f k way, x.2.size ≤ B ∧ ∃ n, L[x.1]? = some n ∧ dirD n = true := by
  intro f
  induction f with
  | zero => intro k way _ x hx; cases hx
  | succ f ih =>
    intro k way hB x hx
    unfold dirsD at hx
    cases hn : L[k]? with
    | none => rw [hn] at hx; cases hx
    | some n =>
      rw [hn] at hx
      dsimp only at hx
      by_cases hc : 0 ≤ n.up ∧ n.up < (k : Int)
      · rw [if_pos hc] at hx
        obtain ⟨a, ha, hak, m, hm, hd⟩ := hT.up k n hn (by omega)
        have e : n.up.toNat = a := by omega
        rw [e, hm] at hx
        rcases List.mem_cons.1 hx with rfl | hx
        · exact ⟨by show way.size ≤ B; omega, m, hm, hd⟩
        · refine ih a (joinS m.name way) ?_ x hx
          have h1 := joinS_size m.name way
          have h2 := hT.name a m hm
          omega
      · rw [if_neg hc] at hx; cases hx
theorem dirs_small {L : List NodeD} (hT : TOK L) {k : Nat} (hk : k < L.length) : (dirsK L k).length ≤ 201 ∧ ∀ x ∈ dirsK L k, x.2.size ≤ 20000 ∧ ∃ n, L[x.1]? = some n ∧ dirD n = true := by
  have hl := hT.len
  refine ⟨Nat.le_trans (dirs_len _ _ _) (by omega), dirs_mem hT 20000 _ _ _ ?_⟩
  have hn : (nameD L k).size ≤ 60 := by
    unfold nameD
    rw [List.getElem?_eq_getElem hk]
    exact hT.name k _ (List.getElem?_eq_getElem hk)
  omega
theorem rev_map {α : Type} (xs : List α) : (revE xs).map (·.2) = xs.reverse := by
  unfold revE
  rw [List.map_reverse, List.map_map]
  congr 1
  exact List.zipIdx_map_fst 0 xs
theorem find_none {xs : List RuleD} {f : RuleD → Bool} (h : ∀ x ∈ revE xs, f x.2 = false) : xs.reverse.find? f = none := by
  rw [List.find?_eq_none]
  intro r hr
  rw [← rev_map] at hr
  obtain ⟨x, hx, rfl⟩ := List.mem_map.1 hr
  rw [h x hx]; decide
theorem find_hit {xs : List RuleD} {f : RuleD → Bool} {pre : List (Nat × RuleD)} {x : Nat × RuleD} (hp : pre ++ [x] <+: revE xs) (h : ∀ y ∈ pre, f y.2 = false) (hx : f x.2 = true) : xs.reverse.find? f = some x.2 := by
  obtain ⟨tl, htl⟩ := hp
  rw [← rev_map, ← htl, List.map_append, List.map_append, List.append_assoc, List.find?_append]
  have e1 : (pre.map (·.2)).find? f = none := by
    rw [List.find?_eq_none]
    intro r hr
    obtain ⟨y, hy, rfl⟩ := List.mem_map.1 hr
    rw [h y hy]; decide
  rw [e1]
  simp [hx]
section
variable {S S0 : Nat → Prop} {L : List NodeD} {g cap D bl br ba1 bk1 ba2 bk2 m1 m2 : Nat} {a6 a2 a4 : Addr} {n n1 n2 : Nat} {W A A' : World}
structure Lows (D bl br ba1 bk1 ba2 bk2 m1 m2 n0 : Nat) : Prop where
  d : D ≤ n0
  bl : bl < n0
  br : br < n0
  ba1 : ba1 < n0
  bk1 : bk1 < n0
  ba2 : ba2 < n0
  bk2 : bk2 < n0
  m1 : m1 < n0
  m2 : m2 < n0
theorem Env.lows (h : Env S L g cap D bl br ba1 bk1 ba2 bk2 m1 m2 a6 a2 a4 n1 n2 W) : Lows D bl br ba1 bk1 ba2 bk2 m1 m2 W.heap.size :=
  ⟨by have := h.xl.lt; have := h.dl; omega, h.xl.lt, h.xr.lt, h.xa1.lt, h.xk1.lt, h.xa2.lt, h.xk2.lt, h.map1.lt, h.map2.lt⟩
theorem Env.keepK {K : Nat → Prop} {n0 : Nat} (h : Env S L g cap D bl br ba1 bk1 ba2 bk2 m1 m2 a6 a2 a4 n1 n2 A) (lo : Lows D bl br ba1 bk1 ba2 bk2 m1 m2 n0) (ho : A'.os = A.os) (ht : A'.tape = A.tape) (hu : A'.output = A.output) (hz : A.heap.size ≤ A'.heap.size) (hk : ∀ b, b < A.heap.size → K b → A'.heap[b]? = A.heap[b]?) (hl : ∀ b, b < n0 → K b) (hS : ∀ b, b < A.heap.size → ¬ S b → K b) : Env S L g cap D bl br ba1 bk1 ba2 bk2 m1 m2 a6 a2 a4 n1 n2 A' := by
  have hD : D ≤ A.heap.size := h.lows.d
  have hb : Below D A A' := ⟨ho, ht, hu, hz, fun b hb => hk b (by omega) (hl b (by have := lo.d; omega))⟩
  have bx : ∀ {b : Nat} {t : TypeId} {v : Value}, b < n0 → Boxed A b t v → Boxed A' b t v := fun hb q => (hk _ q.lt (hl _ hb)).trans q
  refine ⟨h.row.below hb, h.gw.teller_keep (hb.mono h.d10), h.sn.below hb h.d10, h.d10, h.s1, h.s2, h.dl, h.ne1, h.ne2, bx lo.bl h.xl, bx lo.br h.xr, bx lo.ba1 h.xa1, bx lo.bk1 h.xk1, bx lo.ba2 h.xa2, bx lo.bk2 h.xk2, h.map1.keep (hk _ h.map1.lt (hl _ lo.m1)) ?_, h.map2.keep (hk _ h.map2.lt (hl _ lo.m2)) (fun _ _ q => q)⟩
  rintro k v ⟨a, m, c, e, q⟩
  refine ⟨a, m, c, e, ?_⟩
  rcases q with q | ⟨g', cap', e', hc, hg, hn, hx⟩
  · exact .inl q
  · exact .inr ⟨g', cap', e', hc, Nat.lt_of_lt_of_le hg hz, hn, fun i r hi => (hx i r hi).block (hk g' hg (hS g' hg hn))⟩
structure SyI (S0 : Nat → Prop) (L : List NodeD) (g cap D bl br ba1 bk1 ba2 bk2 m1 m2 : Nat) (a6 a2 a4 : Addr) (n n2 : Nat) (W : World) (dir : Bool) (n0 : Nat) (res : Bool) (C : Nat → Prop) (A : World) : Prop where
  cs : ∀ b, C b → (b = m1 ∨ b = n0 + 1 ∨ n0 + 5 ≤ b)
  c1 : C m1
  c2 : C (n0 + 1)
  clt : ∀ b, C b → b < A.heap.size
  env : Env (fun b => S0 b ∨ b = n0 + 1 ∨ (n0 ≤ b ∧ ¬ C b)) L g cap D bl br ba1 bk1 ba2 bk2 m1 m2 a6 a2 a4 n n2 A
  b0 : Boxed A n0 108 (.func (.func 83) #[] #[.pointer (some ⟨ba1, 0, none⟩), .pointer (some ⟨bk1, 0, none⟩)])
  b1 : Boxed A (n0 + 1) 4 (.bool res)
  b2 : Boxed A (n0 + 2) 4 (.bool dir)
  t : TurnC (fun b => b = m1) C W A
theorem syI_keep {dir res : Bool} {n0 N : Nat} {C : Nat → Prop} (lo : Lows D bl br ba1 bk1 ba2 bk2 m1 m2 n0) (hW : W.heap.size = n0) (hN : n0 + 5 ≤ N) (h : SyI S0 L g cap D bl br ba1 bk1 ba2 bk2 m1 m2 a6 a2 a4 n n2 W dir n0 res C A) (hk : KeepC N C A A') : SyI S0 L g cap D bl br ba1 bk1 ba2 bk2 m1 m2 a6 a2 a4 n n2 W dir n0 res C A' :=
  ⟨h.cs, h.c1, h.c2, fun b q => Nat.lt_of_lt_of_le (h.clt b q) hk.size, h.env.keepK (K := fun b => b < n0 ∨ C b) lo hk.os hk.tape hk.output hk.size (fun b hb q => hk.block b hb (q.imp (fun q => by omega) id)) (fun b q => .inl q) (fun b _ q => by
    by_cases hb : b < n0
    · exact .inl hb
    · refine .inr (Classical.byContradiction fun hc => q (.inr (.inr ⟨by omega, hc⟩)))),
    boxed_keepN h.b0 hk (by omega), boxed_keepN h.b1 hk (by omega), boxed_keepN h.b2 hk (by omega), h.t.keepN hk (by omega)⟩
theorem SyI.set {dir res : Bool} {n0 : Nat} {C : Nat → Prop} (lo : Lows D bl br ba1 bk1 ba2 bk2 m1 m2 n0) (h : SyI S0 L g cap D bl br ba1 bk1 ba2 bk2 m1 m2 a6 a2 a4 n n2 W dir n0 res C A) (r : Bool) : SyI S0 L g cap D bl br ba1 bk1 ba2 bk2 m1 m2 a6 a2 a4 n n2 W dir n0 r C (A.setCell ⟨n0 + 1, 0, none⟩ (.bool r)) := by
  have t1 : TurnC C C A (A.setCell ⟨n0 + 1, 0, none⟩ (.bool r)) := .setCell _ _ _ h.c2
  exact ⟨h.cs, h.c1, h.c2, fun b q => Nat.lt_of_lt_of_le (h.clt b q) t1.size, h.env.keepK (K := fun b => b ≠ n0 + 1) lo rfl rfl rfl t1.size (fun b _ q => Below.heap_setCell _ _ _ b q) (fun b q => by omega) (fun b _ q e => q (.inr (.inl e))), h.b0.other (by omega) _, h.b1.set _, h.b2.other (by omega) _, h.t.trans t1⟩
theorem SyI.out {dir res : Bool} {n0 Dd : Nat} {C : Nat → Prop} (hs : S0 m1 ∧ S0 m2) (lo : Lows D bl br ba1 bk1 ba2 bk2 m1 m2 n0) (hW : W.heap.size = n0) (h : SyI S0 L g cap D bl br ba1 bk1 ba2 bk2 m1 m2 a6 a2 a4 n n2 W dir n0 res C A) (hd : n0 + 5 ≤ Dd) (hC : ¬ C Dd) (ho : A'.os = A.os) (ht : A'.tape = A.tape) (hu : A'.output = A.output) (hz : A.heap.size ≤ A'.heap.size) (hk : ∀ b, b < A.heap.size → b ≠ n0 + 1 → b ≠ Dd → A'.heap[b]? = A.heap[b]?) :
    Env S0 L g cap D bl br ba1 bk1 ba2 bk2 m1 m2 a6 a2 a4 n n2 A' ∧ TurnC (fun b => b = m1) (fun b => b = m1) W A' := by
  refine ⟨((h.env.keepK (K := fun b => b ≠ n0 + 1 ∧ b ≠ Dd) lo ho ht hu hz (fun b hb q => hk b hb q.1 q.2) (fun b q => by omega) (fun b _ q => ⟨fun e => q (.inr (.inl e)), fun e => q (.inr (.inr ⟨by omega, by rw [e]; exact hC⟩))⟩))).less hs.1 hs.2 (fun b _ q => .inl q), ⟨ho.trans h.t.os, ht.trans h.t.tape, hu.trans h.t.output, Nat.le_trans h.t.size hz, fun b hb hc => (hk b (Nat.lt_of_lt_of_le hb h.t.size) (by omega) (by omega)).trans (h.t.block b hb hc), fun _ q => .inl q⟩⟩
set_option maxRecDepth 100000 in
set_option maxHeartbeats 8000000 in
theorem says_any (h : Env S0 L g cap D bl br ba1 bk1 ba2 bk2 m1 m2 a6 a2 a4 n1 n2 W) (hn : n1 ≤ 100000000) (hT : TOK L) (k : Nat) (nd : NodeD) (hk : L[k]? = some nd) (hS0 : ∀ b, S0 b → b < W.heap.size) :
    Calls Tryz.prog 55 #[.slice (some ⟨g, 0, none⟩) L.length cap, .func (.func 83) #[] #[.pointer (some ⟨ba1, 0, none⟩), .pointer (some ⟨bk1, 0, none⟩)], .int .i64 (k : Int)] W fun e w' => e = .returned (.bool (saysD L k)) ∧ (∃ n', n' ≤ n1 + 201 ∧ Env S0 L g cap D bl br ba1 bk1 ba2 bk2 m1 m2 a6 a2 a4 n' n2 w') ∧ TurnC (fun b => b = m1) (fun b => b = m1) W w' := by
  obtain ⟨n0, hn0⟩ : ∃ n0, W.heap.size = n0 := ⟨_, rfl⟩
  have lo := h.lows
  have hs : S0 m1 ∧ S0 m2 := ⟨h.s1, h.s2⟩
  rw [hn0] at hS0
  rw [hn0] at lo
  have hlt := (List.getElem?_eq_some_iff.1 hk).1
  have hkI : (k : Int) < (L.length : Int) := by omega
  obtain ⟨_, _, _, _, hge, hgD, _, ⟨d0, _, _, _, _, _, _⟩, _⟩ := h.row.at hk
  cases hge
  have e0 : (lay W [.cells #[.func (.func 83) #[] #[.pointer (some ⟨ba1, 0, none⟩), .pointer (some ⟨bk1, 0, none⟩)]] 108, .cells #[.bool false] 4]).cell? ⟨g, k * 7, none⟩ = some (.int .u8 nd.kind) := ((lay_facts _ W).2.1.cell (p := ⟨g, k * 7, none⟩) (by show g < _; have := lo.d; omega)).trans d0
  simp only [lay] at e0
  have HE := hide h
  clear d0 h
  refine (callsIn_wide (n := 0)).1 ?_
  refine callsIn_of_wp_marks Tryz.func55 rfl trivial ?_ rfl
  simp only [Tryz.ntmps55, List.size_toArray, List.length_cons, List.length_nil, Nat.reduceAdd, Nat.reduceSub, Array.replicate_succ, Array.replicate_zero, List.push_toArray, List.append_toArray, List.nil_append, List.cons_append]
  gi_wp2_with fail
  refine ⟨trivial, rfl, CallsIn.mono (callsIn_wide.2 (isDir_any nd _)) ?_⟩
  rintro e w' ⟨rfl, hw⟩
  rw [hw]
  clear hw w' e0
  gi_wp2_with fail
  refine ⟨trivial, rfl, CallsIn.mono (callsIn_wide.2 (dirs_any _ _ _ _ _)) ?_⟩
  rintro e w' ⟨rfl, hw⟩
  rw [hw]
  clear hw w'
  gi_wp2_with fail
  obtain ⟨w1, hw1⟩ : ∃ w1, lay W [.cells #[.func (.func 83) #[] #[.pointer (some ⟨ba1, 0, none⟩), .pointer (some ⟨bk1, 0, none⟩)]] 108, .cells #[.bool false] 4, .cells #[.bool (dirD nd)] 4, .cells #[.slice (some ⟨g, 0, none⟩) L.length cap] 31, .cells #[.int .i64 (k : Int)] 3] = w1 := ⟨_, rfl⟩
  obtain ⟨z1, l1, f1⟩ := lay_facts [.cells #[.func (.func 83) #[] #[.pointer (some ⟨ba1, 0, none⟩), .pointer (some ⟨bk1, 0, none⟩)]] 108, .cells #[.bool false] 4, .cells #[.bool (dirD nd)] 4, .cells #[.slice (some ⟨g, 0, none⟩) L.length cap] 31, .cells #[.int .i64 (k : Int)] 3] W
  rw [hw1] at z1 l1 f1
  rw [hn0] at z1 l1 f1
  simp only [lay] at hw1
  rw [hw1]
  clear hw1
  replace z1 : w1.heap.size = n0 + 5 := z1
  have q0 : Boxed w1 n0 108 (.func (.func 83) #[] #[.pointer (some ⟨ba1, 0, none⟩), .pointer (some ⟨bk1, 0, none⟩)]) := f1 0 _ rfl
  have q1 : Boxed w1 (n0 + 1) 4 (.bool false) := f1 1 _ rfl
  have q2 : Boxed w1 (n0 + 2) 4 (.bool (dirD nd)) := f1 2 _ rfl
  have q3 : Boxed w1 (n0 + 3) 31 (.slice (some ⟨g, 0, none⟩) L.length cap) := f1 3 _ rfl
  have q4 : Boxed w1 (n0 + 4) 3 (.int .i64 (k : Int)) := f1 4 _ rfl
  clear f1
  have hdD : isDirK L k = dirD nd := by unfold isDirK; rw [hk]
  have hE1 := (HE.out.less (S' := fun b => S0 b ∨ b = n0 + 1 ∨ (n0 ≤ b ∧ ¬ (b = m1 ∨ b = n0 + 1))) (.inl hs.1) (.inl hs.2) (fun b hb q => by
      rcases q with q | q | q
      · exact q
      · omega
      · omega)).below (by rw [hn0]; exact l1)
  have hdm := (dirs_small hT hlt).1
  have ht0 : TurnC (fun b => b = m1) (fun b => b = m1 ∨ b = n0 + 1) W w1 := ⟨l1.os, l1.tape, l1.output, l1.size, fun b hb _ => l1.block b (by omega), fun b q => by
    rcases q with rfl | rfl
    · exact .inl rfl
    · exact .inr (by omega)⟩
  have hI0 : SyI S0 L g cap D bl br ba1 bk1 ba2 bk2 m1 m2 a6 a2 a4 n1 n2 W (dirD nd) n0 false (fun b => b = m1 ∨ b = n0 + 1) w1 := ⟨fun b q => by rcases q with q | q; exact .inl q; exact .inr (.inl q), .inl rfl, .inr rfl, fun b q => by have := lo.m1; omega, hE1, q0, q1, q2, ht0⟩
  refine range_out (gf := 89) (lb := #[.pointer (some ⟨n0 + 1 + 1 + 1 + 1, 0, none⟩), .pointer (some ⟨n0 + 1 + 1 + 1, 0, none⟩)]) rfl (enters_of Tryz.func89 (by kernel_rfl) rfl) (dirs_hands L hT (some ⟨g, 0, none⟩) cap D (n0 + 4) (n0 + 3) k hlt) (fun _ => rfl)
    (fun b => b = m1 ∨ b = n0 + 1) (fun pre C A => SyI S0 L g cap D bl br ba1 bk1 ba2 bk2 m1 m2 a6 a2 a4 (n1 + pre.length) n2 W (dirD nd) n0 false C A ∧ saysD L k = saysG L (dirD nd) ((dirsK L k).drop pre.length)) (fun C A => ∃ n', n' ≤ n1 + 201 ∧ SyI S0 L g cap D bl br ba1 bk1 ba2 bk2 m1 m2 a6 a2 a4 n' n2 W (dirD nd) n0 (saysD L k) C A)
    (fun pre => ⟨fun C A q => q.1.clt, fun C A A' q hk => ⟨syI_keep lo hn0 (by omega) q.1 hk, q.2⟩⟩) ⟨fun C A ⟨_, _, q⟩ => q.clt, fun C A A' ⟨n', h', q⟩ hk => ⟨n', h', syI_keep lo hn0 (by omega) q hk⟩⟩
    ⟨hI0, by unfold saysD; rw [hdD]; rfl⟩ (fun W' hB => ⟨boxed_below q4 hB (by omega), boxed_below q3 hB (by omega), hE1.row.below (hB.mono (by have := lo.d; omega)), fun j q => by
      have := HE.out.dl
      have := lo.d
      omega, fun q => by have := lo.m1; omega, fun q => by have := lo.m1; omega, by have := lo.d; have := hB.size; omega⟩) (fun _ _ _ _ _ _ => trivial) ?round ?done ?stop
  case round =>
    clear q0 q1 q2 q3 q4 hE1 ht0 hI0
    rintro l2 pre ⟨up, way⟩ C Wx hl2 hrec hCl2 hpre ⟨hI, hS⟩
    obtain ⟨hws, nu, hnu, hdu⟩ := (dirs_small hT hlt).2 _ (mem_of_pre hpre)
    dsimp only at hws hnu
    have hpl := len_of_pre hpre
    have hrs := rules_small hT up
    have hstep : saysD L k = (match (rulesD L up).reverse.find? (fun r => hitD r way (dirD nd)) with
        | some r => !r.nt
        | none => saysG L (dirD nd) ((dirsK L k).drop (pre ++ [(up, way)]).length)) := by
      rw [hS]
      obtain ⟨tl, htl⟩ := hpre
      rw [← htl, List.append_assoc, List.drop_left]
      show saysG L (dirD nd) ((up, way) :: tl) = _
      rw [← List.append_assoc, List.drop_left]
      rfl
    simp only [encDir]
    gi_wp2
    refine ⟨(Below.refl _ _).alloc (Nat.le_refl _) _, fun W2 hsw => ?_⟩
    obtain ⟨r₁, hr₁⟩ := hrec
    have hl2x := (Array.getElem?_eq_some_iff.1 hr₁).1
    obtain ⟨bw, hbwz⟩ : ∃ bw, Wx.heap.size = bw := ⟨_, rfl⟩
    have hbw : Boxed W2 bw 9 (.string way) := (hsw.block bw (by omega)).trans (by rw [← hbwz]; exact Boxed.new _ _ _)
    have hI2 := syI_keep lo hn0 (N := w1.heap.size) (by omega) (syI_keep lo hn0 (N := w1.heap.size) (by omega) hI (.of_below ((Below.refl _ _).alloc (Nat.le_refl _) (.cells #[.string way] 9)))) (hsw.keep hl2 hCl2)
    obtain ⟨r₀, hr₀⟩ := hsw.record
    have hz2 : W2.heap.size = bw + 1 := by rw [hsw.size, ← hbwz]; simp
    have hclt := hI2.clt
    clear hI hsw hr₁ hS
    have hM := memo1_any hI2.env (by omega) hT up nu hnu hdu
    have c0 := hI2.b0.cell
    have hl2z : l2 < W2.heap.size := by omega
    rw [hbwz]
    gi_wp2_with fail
    refine ⟨trivial, rfl, CallsIn.mono (CallsIn.inRound l2 (callsIn_wide.2 hM)) ?_⟩
    rintro e A3 ⟨a, m, c, rfl, hru, henv, ht3⟩
    clear hM c0
    gi_wp2_with fail
    refine ⟨trivial, rfl, CallsIn.mono (CallsIn.inRound l2 (callsIn_wide.2 (backR_any _ _ _ _))) ?_⟩
    rintro e w' ⟨rfl, hw⟩
    rw [hw]
    clear hw w'
    gi_wp2_with fail
    obtain ⟨z3, hz3⟩ : ∃ z3, A3.heap.size = z3 := ⟨_, rfl⟩
    have hz23 := ht3.size
    obtain ⟨C3, hC3⟩ : ∃ C3 : Nat → Prop, C3 = fun b => C b ∨ (W2.heap.size ≤ b ∧ b < z3) := ⟨_, rfl⟩
    have hI3 : SyI S0 L g cap D bl br ba1 bk1 ba2 bk2 m1 m2 a6 a2 a4 (n1 + pre.length + 1) n2 W (dirD nd) n0 false C3 A3 := by
      subst hC3
      have lm := lo.m1
      refine ⟨fun b q => ?_, .inl hI2.c1, .inl hI2.c2, fun b q => ?_, henv.less (.inl hs.1) (.inl hs.2) (fun b hb q => ?_), boxed_turn ht3 hI2.b0 (by omega), boxed_turn ht3 hI2.b1 (by omega), boxed_turn ht3 hI2.b2 (by omega), ⟨ht3.os.trans hI2.t.os, ht3.tape.trans hI2.t.tape, ht3.output.trans hI2.t.output, Nat.le_trans hI2.t.size ht3.size, fun b hb hc => (ht3.block b (Nat.lt_of_lt_of_le hb hI2.t.size) hc).trans (hI2.t.block b hb hc), fun b q => ?_⟩⟩
      · rcases q with q | q
        · exact hI2.cs b q
        · exact .inr (.inr (by omega))
      · rcases q with q | q
        · have := hclt b q; omega
        · omega
      · refine ⟨?_, ?_⟩
        · rcases q with q | q | q
          · exact .inl q
          · exact .inr (.inl q)
          · exact .inr (.inr ⟨q.1, fun e => q.2 (.inl e)⟩)
        · rcases q with q | q | q
          · have := hS0 b q; omega
          · omega
          · exact Classical.byContradiction fun e => q.2 (.inr ⟨by omega, by omega⟩)
      · rcases q with q | q
        · exact hI2.t.new b q
        · exact .inr (by omega)
    have hT3 : TurnC C C3 W2 A3 := by
      subst hC3
      exact ⟨ht3.os, ht3.tape, ht3.output, ht3.size, fun b hb hc => ht3.block b hb (fun e => hc (by rw [e]; exact hI2.c1)), fun b q => by
        rcases q with q | q
        · exact .inl q
        · exact .inr q.1⟩
    have hbw3 : Boxed A3 bw 9 (.string way) := boxed_turn ht3 hbw (by have := lo.m1; omega)
    have hru3 : RuRow (fun b => z3 ≤ b) A3 (.slice a m c) (rulesD L up) := hru.lessB (fun b hb q => by omega)
    obtain rfl : m = (rulesD L up).length := by
      rcases hru with ⟨e1, e2⟩ | ⟨_, _, e1, _⟩
      · rw [e2]; injection e1
      · injection e1
    have hr₃ : A3.heap[l2]? = some (.loop r₀) := (ht3.block l2 hl2z (fun e => hCl2 (by rw [e]; exact hI2.c1))).trans hr₀
    have hnz : ¬ C3 z3 := by
      subst hC3
      rintro (q | q)
      · have := hclt _ q; omega
      · omega
    clear hI2 hbw henv ht3 hru hr₀ hclt
    obtain ⟨A4, hA4⟩ : ∃ A4, A3.alloc (.cells #[.slice a (rulesD L up).length c] 110) = A4 := ⟨_, rfl⟩
    have hB4 : Below A3.heap.size A3 A4 := by rw [← hA4]; exact (Below.refl _ _).alloc (Nat.le_refl _) _
    have hz4 : A4.heap.size = z3 + 1 := by rw [← hA4, ← hz3]; simp
    have hbx : Boxed A4 z3 110 (.slice a (rulesD L up).length c) := by rw [← hA4, ← hz3]; exact Boxed.new _ _ _
    rw [hA4, hz3]
    clear hA4
    have ruk : ∀ {N : Nat} {C' : Nat → Prop} {A A' : World}, z3 ≤ N → RuRow (fun b => z3 ≤ b) A (.slice a (rulesD L up).length c) (rulesD L up) → KeepC N C' A A' → RuRow (fun b => z3 ≤ b) A' (.slice a (rulesD L up).length c) (rulesD L up) := by
      intro N C' A A' hN h hk
      rcases h with h | ⟨g', cap', e, hc, hg, hn, hx⟩
      · exact .inl h
      · exact .inr ⟨g', cap', e, hc, Nat.lt_of_lt_of_le hg hk.size, hn, fun i r hi => (hx i r hi).block (hk.block g' hg (.inl (by omega)))⟩
    have rut : ∀ {A A' : World}, RuRow (fun b => z3 ≤ b) A (.slice a (rulesD L up).length c) (rulesD L up) → Below A.heap.size A A' → RuRow (fun b => z3 ≤ b) A' (.slice a (rulesD L up).length c) (rulesD L up) := fun h hb => h.turn (TurnC.of_below (C := fun _ => False) hb) (fun _ _ q => q.elim)
    refine range_in (gf := 125) (lb := #[.pointer (some ⟨z3, 0, none⟩)]) ((hB4.block _ (by omega)).trans hr₃) rfl (enters_of Tryz.func125 (by kernel_rfl) rfl) (backR_hands z3 a c (rulesD L up) (by omega)) (fun _ => rfl)
      C3 (fun (pre2 : List (Nat × RuleD)) C' A => C' = C3 ∧ SyI S0 L g cap D bl br ba1 bk1 ba2 bk2 m1 m2 a6 a2 a4 (n1 + pre.length + 1) n2 W (dirD nd) n0 false C3 A ∧ Boxed A bw 9 (.string way) ∧ RuRow (fun b => z3 ≤ b) A (.slice a (rulesD L up).length c) (rulesD L up) ∧ (∀ x ∈ pre2, hitD x.2 way (dirD nd) = false) ∧ TurnC C C3 W2 A)
      (fun C' A => C' = C3 ∧ SyI S0 L g cap D bl br ba1 bk1 ba2 bk2 m1 m2 a6 a2 a4 (n1 + pre.length + 1) n2 W (dirD nd) n0 (saysD L k) C3 A ∧ TurnC C C3 W2 A)
      (fun pre2 => ⟨fun C' A q => by obtain ⟨rfl, q, _⟩ := q; exact q.clt, fun C' A A' q hk => by
        obtain ⟨rfl, q1, q2, q3, q4, q5⟩ := q
        exact ⟨rfl, syI_keep lo hn0 (by omega) q1 hk, boxed_keepN q2 hk (by omega), ruk (by omega) q3 hk, q4, q5.keepN hk (by omega)⟩⟩)
      ⟨fun C' A q => by obtain ⟨rfl, q, _⟩ := q; exact q.clt, fun C' A A' q hk => by
        obtain ⟨rfl, q1, q5⟩ := q
        exact ⟨rfl, syI_keep lo hn0 (by omega) q1 hk, q5.keepN hk (by omega)⟩⟩
      ⟨rfl, syI_keep lo hn0 (N := A3.heap.size) (by omega) hI3 (.of_below hB4), boxed_below hbw3 hB4 (by omega), rut hru3 hB4, fun x q => (by cases q), hT3.trans (TurnC.of_below hB4)⟩
      (fun W' hB => ⟨boxed_below hbx hB (by omega), fun q => by
        rcases q with q | q
        · exact hnz q
        · omega⟩)
      (fun pre2 x C' A hp q => by
        obtain ⟨rfl, q1, q2, q3, q4, q5⟩ := q
        obtain ⟨e1, e2⟩ := revE_at hp
        rcases q3 with ⟨_, e3⟩ | ⟨g', cap', e, hc, hg, hn, hx⟩
        · rw [e3] at e2; simp at e2
        · injection e with ea eb ec
          subst ea
          subst ec
          exact ⟨g', rfl, hc, hx _ _ e2⟩) ?round2 ?done2 ?stop2
    case round2 =>
      rintro l3 pre2 ⟨i, r⟩ C' Ax hl3 hrec3 hCl3 hpre2 ⟨rfl, hI5, hbw5, hru5, hno, hT5⟩
      have hir := (revE_at hpre2).2
      dsimp only at hir
      have hrp := hrs.2 r (List.mem_of_getElem? hir)
      simp only [encIR, ruleV]
      gi_wp2
      refine ⟨(Below.refl _ _).alloc (Nat.le_refl _) _, fun A2 hsw => ?_⟩
      obtain ⟨r₁, hr₁⟩ := hrec3
      have hl3x := (Array.getElem?_eq_some_iff.1 hr₁).1
      have hal : Below Ax.heap.size Ax (Ax.alloc (.cells #[.bool r.nt, .bool r.dr, .bool r.fx, .string r.pt] 153)) := (Below.refl _ _).alloc (Nat.le_refl _) _
      obtain ⟨br', hbrz⟩ : ∃ b, Ax.heap.size = b := ⟨_, rfl⟩
      have hrb : A2.heap[br']? = some (.cells #[.bool r.nt, .bool r.dr, .bool r.fx, .string r.pt] 153) := (hsw.block br' (by omega)).trans (by rw [← hbrz]; exact World.alloc_heap_new _ _)
      have hkp : KeepC A4.heap.size C' Ax A2 := (KeepC.of_below hal).trans (hsw.keep hl3 hCl3)
      have hI6 := syI_keep lo hn0 (by omega) hI5 hkp
      have hbw6 := boxed_keepN hbw5 hkp (by omega)
      have hru6 := ruk (by omega) hru5 hkp
      have hT6 := hT5.keepN hkp (by omega)
      have s0 : A2.cell? ⟨br', 0, none⟩ = some (.bool r.nt) := by simp [World.cell?, hrb]
      have s1 : A2.cell? ⟨br', 1, none⟩ = some (.bool r.dr) := by simp [World.cell?, hrb]
      have s2 : A2.cell? ⟨br', 2, none⟩ = some (.bool r.fx) := by simp [World.cell?, hrb]
      have s3 : A2.cell? ⟨br', 3, none⟩ = some (.string r.pt) := by simp [World.cell?, hrb]
      have sw := hbw6.cell
      have sd := hI6.b2.cell
      have hH := hits_any r way (dirD nd) A2 hI6.env.gw (by omega) (by omega)
      have hbrl : br' < A2.heap.size := (Array.getElem?_eq_some_iff.1 hrb).1
      rw [hbrz]
      clear hI5 hbw5 hru5 hT5 hkp hal hsw hr₁ hrb
      gi_wp2_with fail
      refine ⟨trivial, rfl, CallsIn.mono (CallsIn.inRound l3 (callsIn_wide.2 hH)) ?_⟩
      rintro e A5 ⟨rfl, hb5⟩
      have s05 := (hb5.cell (p := ⟨br', 0, none⟩) hbrl).trans s0
      have hI7 := syI_keep lo hn0 (N := A2.heap.size) (by omega) hI6 (.of_below hb5)
      have f1 := hI7.b1.frozen
      have k1 := hI7.b1.cell
      cases hhit : hitD r way (dirD nd)
      · gi_wp2
        exact ⟨_, TurnC.of_below hb5, rfl, hI7, boxed_below hbw6 hb5 hbw6.lt, rut hru6 hb5, fun x q => by
          rcases List.mem_append.1 q with q | q
          · exact hno x q
          · rw [List.mem_singleton.1 q]; exact hhit, hT6.trans (TurnC.of_below hb5)⟩
      · gi_wp2
        have hres : saysD L k = !r.nt := by
          rw [hstep, find_hit hpre2 hno hhit]
        rw [hres]
        have ts : TurnC C' C' A5 (A5.setCell ⟨n0 + 1, 0, none⟩ (.bool (!r.nt))) := .setCell _ _ _ hI7.c2
        exact ⟨_, (TurnC.of_below hb5).trans ts, rfl, hI7.set lo _, hT6.trans ((TurnC.of_below hb5).trans ts)⟩
    case done2 =>
      rintro C' Ax hz5 hC5 ⟨rfl, hI5, hbw5, hru5, hno, hT5⟩
      gi_wp2
      have hnone : (rulesD L up).reverse.find? (fun r => hitD r way (dirD nd)) = none := find_none hno
      rw [hnone] at hstep
      refine ⟨_, hT5, ?_, hstep⟩
      rw [List.length_append, List.length_singleton, ← Nat.add_assoc]
      exact hI5
    case stop2 =>
      rintro C' Ax hz5 hC5 ⟨rfl, hI5, hT5⟩
      exact ⟨_, hT5, _, by omega, hI5⟩
  case done =>
    rintro C Wx hz hC ⟨hI, hS⟩ hK
    have k1 := hI.b1.cell
    have f1 := hI.b1.frozen
    rw [List.drop_of_length_le (Nat.le_refl _)] at hS
    have hS : saysD L k = false := hS
    have HI := hide hI
    have HK := hide hK
    clear hI hK
    gi_wp2
    have hx := HI.out.b1.set (.bool false)
    have hx2 := (boxed_put (D := w1.heap.size) (o := .deferred none) hx (by omega)).cell
    refine leave_ret (def_set HK.out (by omega)) (v := .bool (saysD L k)) ?_ ⟨rfl, ?_⟩
    · rw [hS]
      simp [results, Tryz.results55, go_sem, hx2]
    · obtain ⟨r1, r2⟩ := HI.out.out (A' := (Wx.setCell ⟨n0 + 1, 0, none⟩ (.bool false)).putObj w1.heap.size (.deferred none)) hs lo hn0 (by omega) hC rfl rfl rfl (by simp) (fun b hb h1 h2 => (World.putObj_heap_other h2).trans (Below.heap_setCell _ _ _ b h1))
      exact ⟨⟨_, by omega, r1⟩, r2⟩
  case stop =>
    rintro C Wx hz hC ⟨n', hn', hI⟩ hK
    have hx2 := (boxed_put (D := w1.heap.size) (o := .deferred none) hI.b1 (by omega)).cell
    refine leave_ret hK (v := .bool (saysD L k)) ?_ ⟨rfl, ?_⟩
    · simp [results, Tryz.results55, go_sem, hx2]
    · obtain ⟨r1, r2⟩ := hI.out (A' := Wx.putObj w1.heap.size (.deferred none)) hs lo hn0 (by omega) hC rfl rfl rfl (by simp) (fun b hb h1 h2 => World.putObj_heap_other h2)
      exact ⟨⟨_, hn', r1⟩, r2⟩
end
end Go.Proofs.YtfemboojdablhaaGreatDoor
