/- The law IgnoreLines. -/
import Derived.Test.YtoebmpllckpjlaaDoorIgD
namespace Go.Proofs.YtoebmpllckpjlaaDoor
open Go.RowKit Go.Maps

theorem rulesL_get : ∀ (rs : List RuleD) (k j : Nat) (r : RuleD), rs[k]? = some r → j < 4 → (rulesL rs)[k * 4 + j]? = (ruleL r)[j]? := by
  intro rs
  induction rs with
  | nil => intro k j r h; simp at h
  | cons x t ih =>
    intro k j r h hj
    have e : rulesL (x :: t) = ruleL x ++ rulesL t := by simp [rulesL]
    have hl : (ruleL x).length = 4 := rfl
    rw [e]
    match k, h with
    | 0, h =>
      cases h
      rw [List.getElem?_append_left (by rw [hl]; omega)]
      congr 1
      omega
    | k + 1, h =>
      rw [List.getElem?_append_right (by rw [hl]; omega), hl, show (k + 1) * 4 + j - 4 = k * 4 + j by omega]
      exact ih k j r h hj
theorem rulesL_len (rs : List RuleD) : (rulesL rs).length = rs.length * 4 := by
  induction rs with
  | nil => rfl
  | cons x t ih =>
    have e : rulesL (x :: t) = ruleL x ++ rulesL t := by simp [rulesL]
    rw [e, List.length_append, ih, List.length_cons]
    show 4 + _ = _
    omega
theorem rulesL_app (a b : List RuleD) : rulesL (a ++ b) = rulesL a ++ rulesL b := by simp [rulesL]
/-- A slice of rules, wherever it lies. -/
def RRow (t : TypeId) (B : Nat) (W : World) (v : Value) (rs : List RuleD) : Prop := (v = .slice none 0 0 ∧ rs = []) ∨ ∃ g cap, v = .slice (some ⟨g, 0, none⟩) rs.length cap ∧ g < B ∧ rs.length ≤ cap ∧ (∃ cur, W.heap[g]? = some (.cells cur t (0, 0))) ∧ ∀ (k : Nat) (r : RuleD), rs[k]? = some r → W.cell? ⟨g, k * 4, none⟩ = some (.bool r.nt) ∧ W.cell? ⟨g, k * 4 + 1, none⟩ = some (.bool r.dr) ∧ W.cell? ⟨g, k * 4 + 2, none⟩ = some (.bool r.fx) ∧ W.cell? ⟨g, k * 4 + 3, none⟩ = some (.string r.pt)
theorem RRow.of_owns {t B : Nat} {W : World} {v : Value} {rs : List RuleD} (h : W.ownsRow B t 4 v rs.length (rulesL rs)) : RRow t W.heap.size W v rs := by
  rcases h.2 with ⟨rfl, h2⟩ | ⟨g, cap, cur, rfl, hb, hg, hn, _, hs, ht⟩
  · exact .inl ⟨rfl, List.eq_nil_of_length_eq_zero h2⟩
  · refine .inr ⟨g, cap, rfl, (Array.getElem?_eq_some_iff.1 hg).1, hn, ⟨cur, hg⟩, fun k r hk => ?_⟩
    have hkl := (List.getElem?_eq_some_iff.1 hk).1
    have key : ∀ (j : Nat) (u : Value), j < 4 → (ruleL r)[j]? = some u → W.cell? ⟨g, k * 4 + j, none⟩ = some u := by
      intro j u hj hu
      have e1 := rulesL_get rs k j r hk hj
      rw [← ht, List.getElem?_take_of_lt (by omega), hu] at e1
      simp only [World.cell?, hg]
      simpa using e1
    exact ⟨key 0 _ (by decide) rfl, key 1 _ (by decide) rfl, key 2 _ (by decide) rfl, key 3 _ (by decide) rfl⟩
theorem RRow.below {t B : Nat} {W W' : World} {v : Value} {rs : List RuleD} (h : RRow t B W v rs) (hb : ∀ k, k < B → W'.heap[k]? = W.heap[k]?) : RRow t B W' v rs := by
  rcases h with h | ⟨g, cap, e, hg, hc, ⟨cur, hcur⟩, hx⟩
  · exact .inl h
  · have same : ∀ j, W'.cell? ⟨g, j, none⟩ = W.cell? ⟨g, j, none⟩ := fun j => cell_same (p := ⟨g, j, none⟩) (hb g hg)
    exact .inr ⟨g, cap, e, hg, hc, ⟨cur, (hb g hg).trans hcur⟩, fun k r hk => by rw [same, same, same, same]; exact hx k r hk⟩
theorem RRow.shape {t B : Nat} {W : World} {v : Value} {rs : List RuleD} (h : RRow t B W v rs) : ∃ a cap, v = .slice a rs.length cap := by
  rcases h with ⟨e, e2⟩ | ⟨g, cap, e, _⟩
  · subst e2; exact ⟨_, _, e⟩
  · exact ⟨_, _, e⟩
theorem split_app (c : UInt8) (a b : List UInt8) : splitL c (a ++ c :: b) = splitL c a ++ splitL c b := by
  induction a with
  | nil => rw [List.nil_append, split_same]; rfl
  | cons x t ih =>
    by_cases hx : x = c
    · subst hx
      rw [List.cons_append, split_same, split_same, ih]; rfl
    · obtain ⟨p, ps, e1, e2⟩ := split_other c x t hx
      obtain ⟨q, qs, e3, e4⟩ := split_other c x (t ++ c :: b) hx
      rw [List.cons_append, e4, e2]
      rw [ih, e1, List.cons_append] at e3
      cases e3
      rfl
theorem rules_app (a b : ByteArray) : rulesOf (a ++ ⟨#[10]⟩ ++ b) = rulesOf a ++ rulesOf b := by
  have e : (a ++ ⟨#[10]⟩ ++ b).data.toList = a.data.toList ++ 10 :: b.data.toList := by simp [ByteArray.data_append]
  unfold rulesOf cutS
  rw [e, split_app, List.map_append, List.filterMap_append]
theorem rules_a : (rulesOf ⟨#[97]⟩).length = 1 := by kernel_rfl
theorem readR_any (s : ByteArray) (hs : s.size ≤ 1073741824) (w : World) (hM : MaxW w) (h2 : 2 < w.heap.size) :
    Calls Tryd.prog 5 #[.string s] w fun e W' => ∃ v, e = .returned v ∧ W'.ownsRow w.heap.size 28 4 v (rulesOf s).length (rulesL (rulesOf s)) ∧ Below w.heap.size w W' :=
  (callsIn_wide (n := 8)).1 (read_in 8 (by omega) s hs w hM h2)
theorem rules_len (s : ByteArray) : (rulesOf s).length ≤ s.size + 1 := by
  unfold rulesOf
  exact Nat.le_trans (List.length_filterMap_le _ _) (cutS_length 10 s)
theorem run_append_none (W : World) (ty : TypeId) (p : Option Addr) (n c : Nat) (h : n ≤ c) (hp : p = none → n = 0 ∧ c = 0) :
    (Builtin.append_ #[22, 22] ty #[.slice p n c, .slice none 0 0]).run Tryd.prog W = .ok (.slice p n c) W := by
  cases p with
  | none =>
    obtain ⟨rfl, rfl⟩ := hp rfl
    simp [Builtin.append_, go_sem]
  | some a =>
    simp [Builtin.append_, go_sem, h]
/-- One slice of rules behind another. -/
theorem wpList_append_rules (W : World) {ops : Array Oper} {rest : List Oper} {o : Oper} {a : Act} {Q : Exit → Act → World → Prop} (hgd : o.guard = none) (s x : Operand)
    (ho : o.op = .call { callee := .builtin .append, args := #[s, x], argTypes := #[22, 22] }) (base B : Nat) (v v3 : Value) (A C : List RuleD) (hs : a.eval s = v) (hx : a.eval x = v3)
    (hown : W.ownsRow base 28 4 v A.length (rulesL A)) (hrow : RRow 28 B W v3 C) (hlen : A.length + C.length ≤ 1000000000) (hbase : base ≤ W.heap.size)
    (h : ∀ v' W', W'.ownsRow base 28 4 v' (A ++ C).length (rulesL (A ++ C)) → W.grownBy W' v.ownBlock → wpList Tryd.prog ops Q rest (a.put o.dst v') W') : wpList Tryd.prog ops Q (o :: rest) a W := by
  have hrun : ∃ v' W', (Builtin.append_ #[22, 22] o.type #[v, v3]).run Tryd.prog W = .ok v' W' ∧ W'.ownsRow base 28 4 v' (A ++ C).length (rulesL (A ++ C)) ∧ W.grownBy W' v.ownBlock := by
    rcases hrow with ⟨rfl, rfl⟩ | ⟨g3, c3, rfl, hg3, hc3, _, hx3⟩
    · rw [List.append_nil]
      rcases hown.2 with ⟨e, h0⟩ | ⟨g, cap, cur, e, hb, hg, hn, hr⟩
      · subst e
        exact ⟨_, _, run_append_none W _ none 0 0 (Nat.le_refl _) (fun _ => ⟨rfl, rfl⟩), hown, World.grownBy.refl _ _⟩
      · subst e
        exact ⟨_, _, run_append_none W _ _ _ _ hn (fun e => by cases e), hown, World.grownBy.refl _ _⟩
    · obtain ⟨i0, hi, hz0, hz1, hz2⟩ := info_parts Tryd.info28r
      have hnews : ∀ j u, (rulesL C)[j]? = some u → W.cell? ((⟨g3, 0, none⟩ : Addr).add j) = some u := by
        intro j u hj
        have e1 : (⟨g3, 0, none⟩ : Addr).add j = ⟨g3, j, none⟩ := by unfold Addr.add; split <;> simp_all
        rw [e1]
        have hjl := (List.getElem?_eq_some_iff.1 hj).1
        rw [rulesL_len] at hjl
        obtain ⟨r, hr⟩ : ∃ r, C[j / 4]? = some r := ⟨_, List.getElem?_eq_getElem (by omega)⟩
        obtain ⟨x0, x1, x2, x3⟩ := hx3 _ r hr
        have hg := rulesL_get C (j / 4) (j % 4) r hr (by omega)
        rw [show j / 4 * 4 + j % 4 = j by omega, hj] at hg
        have h4 : j % 4 = 0 ∨ j % 4 = 1 ∨ j % 4 = 2 ∨ j % 4 = 3 := by omega
        rcases h4 with e | e | e | e
        · rw [e] at hg; cases hg; rw [show j = j / 4 * 4 by omega]; exact x0
        · rw [e] at hg; cases hg; rw [show j = j / 4 * 4 + 1 by omega]; exact x1
        · rw [e] at hg; cases hg; rw [show j = j / 4 * 4 + 2 by omega]; exact x2
        · rw [e] at hg; cases hg; rw [show j = j / 4 * 4 + 3 by omega]; exact x3
      have hone : ∀ u ∈ rulesL C, u.oneCell' = true := by
        intro u hu
        unfold rulesL at hu
        obtain ⟨r, _, hr⟩ := List.mem_flatMap.1 hu
        simp [ruleL] at hr
        rcases hr with rfl | rfl | rfl | rfl <;> rfl
      obtain ⟨v', W', hr, h2, h3, _, _⟩ := run_append_own_at (P := Tryd.prog) W base 22 o.type 28 i0 _ 4 24 Tryd.underlying22r hi hz0 hz1 hz2 rfl (by decide) v A.length (rulesL A) hown ⟨g3, 0, none⟩ C.length c3 (rulesL C) (rulesL_len C) hnews hone (by unfold maxLen; omega) (by omega) hbase
      exact ⟨v', W', hr, by rw [List.length_append, rulesL_app]; exact h2, h3⟩
  obtain ⟨v', W', hr, h2, h3⟩ := hrun
  refine wpList_plain hgd fun K hK => ?_
  unfold Oper.wp execOp
  simp only [ho, resolve, invoke, builtin, Sem.run_bind, Sem.run_pure, Result.andThen_ok, List.map_toArray, List.map_cons, List.map_nil, hs, hx, hr]
  exact hK _ _ (h v' W' h2 h3)
set_option maxRecDepth 100000 in
set_option maxHeartbeats 4000000 in
theorem lines_any (a b : ByteArray) (w : World) (ha : a.size ≤ 100000000) (hb : b.size ≤ 100000000) (hM : MaxW w) (h2 : 2 < w.heap.size) :
    Calls Tryd.prog 4 #[.string a, .string b] w fun e w' => e = .returned (.bool true) ∧ Below w.heap.size w w' := by
  have hsz : (a ++ ⟨#[10]⟩ ++ b).size ≤ 1073741824 := by rw [ByteArray.size_append, ByteArray.size_append]; show a.size + 1 + b.size ≤ _; omega
  have hr1 := readR_any (a ++ ⟨#[10]⟩ ++ b) hsz w hM h2
  rw [rules_app] at hr1
  have hra := rules_len a
  have hrb := rules_len b
  obtain ⟨A, hA⟩ : ∃ A, rulesOf a = A := ⟨_, rfl⟩
  obtain ⟨B, hB⟩ : ∃ B, rulesOf b = B := ⟨_, rfl⟩
  rw [hA] at hra
  rw [hB] at hrb
  rw [hA, hB] at hr1
  go_enter Tryd.func4, Tryd.ntmps4
  go_wp2_with fail
  refine hr1.mono ?_
  rintro e W1 ⟨v1, rfl, hown1, hb1⟩
  have hM1 := hM.below h2 hb1
  have h21 : 2 < W1.heap.size := Nat.lt_of_lt_of_le h2 hb1.size
  have hrow1 := RRow.of_owns hown1
  obtain ⟨p1, c1, rfl⟩ := hrow1.shape
  have hr2 := readR_any a (by omega) W1 hM1 h21
  rw [hA] at hr2
  have H1 := hide (⟨hrow1, hb1⟩ : _ ∧ _)
  clear hr1 hown1 hrow1 hb1
  go_wp2_with fail
  refine hr2.mono ?_
  rintro e W2 ⟨v2, rfl, hown2, hb2⟩
  have hM2 := hM1.below h21 hb2
  have h22 : 2 < W2.heap.size := Nat.lt_of_lt_of_le h21 hb2.size
  have hrow2 := RRow.of_owns hown2
  obtain ⟨p2, c2, rfl⟩ := hrow2.shape
  have hr3 := readR_any b (by omega) W2 hM2 h22
  rw [hB] at hr3
  have H2 := hide (⟨hown2, hb2⟩ : _ ∧ _)
  clear hr2 hown2 hrow2 hb2
  go_wp2_with fail
  refine hr3.mono ?_
  rintro e W3 ⟨v3, rfl, hown3, hb3⟩
  have hM3 := hM2.below h22 hb3
  have h23 : 2 < W3.heap.size := Nat.lt_of_lt_of_le h22 hb3.size
  have hrow3 := RRow.of_owns hown3
  have hown2 : W3.ownsRow W1.heap.size 28 4 (.slice p2 A.length c2) A.length (rulesL A) := row_keep H2.out.1 (fun k c hk _ => (hb3.block k (Array.getElem?_eq_some_iff.1 hk).1).trans hk)
  have hb13 : Below W1.heap.size W1 W3 := H2.out.2.trans (hb3.mono H2.out.2.size)
  have h5 := rules_a
  obtain ⟨p3, c3, rfl⟩ := hrow3.shape
  have hbs : W1.heap.size ≤ W3.heap.size := hb13.size
  have HX := hide (⟨hown2, hrow3, hb13, h5⟩ : _ ∧ _ ∧ _ ∧ _)
  clear hown2 hb13 h5 hA hB hown3 hb3 hr3 hrow3
  go_wp2_with (at_builtin; refine wpList_append_rules _ rfl (.tmp 18) (.tmp 19) rfl W1.heap.size _ (.slice p2 A.length c2) (.slice p3 B.length c3) A B rfl rfl HX.out.1 HX.out.2.1 (by omega) hbs ?_; intro v4 W4 hown4 hg4; have hrow4 := RRow.of_owns hown4; obtain ⟨p4, c4, hp4⟩ := hrow4.shape; subst hp4; have hb14 : Below W1.heap.size W1 W4 := (HX.out.2.2.1).trans ⟨hg4.os, hg4.tape, hg4.output, hg4.size, fun k hk => hg4.block k (by omega) (fun e => by have := (own_cells HX.out.1 e.symm).1; omega)⟩; have hM4 := hM1.below h21 hb14; have h24 : 2 < W4.heap.size := Nat.lt_of_lt_of_le h21 hb14.size; have hr5 := readR_any ⟨#[97]⟩ (by decide) W4 hM4 h24; have H4 := hide (⟨hrow4, hb14⟩ : _ ∧ _); clear hown4 hg4 hrow4 hb14)
  refine hr5.mono ?_
  rintro e W5 ⟨v5, rfl, hown5, hb5⟩
  rw [HX.out.2.2.2] at hown5
  obtain ⟨p5, c5, rfl⟩ : ∃ a c, v5 = .slice a 1 c := by
    rcases hown5.2 with ⟨e, h0⟩ | ⟨g, cap, cur, e, _⟩
    · cases h0
    · exact ⟨_, _, e⟩
  have hb15 : Below W1.heap.size W1 W5 := H4.out.2.trans (hb5.mono H4.out.2.size)
  have hbw5 : Below w.heap.size w W5 := H1.out.2.trans (hb15.mono H1.out.2.size)
  have hl1 := H1.out.1.below (fun k hk => hb15.block k hk)
  have hl4 := H4.out.1.below (fun k hk => hb5.block k hk)
  obtain ⟨L, hL⟩ : ∃ L, A ++ B = L := ⟨_, rfl⟩
  have hLl : A.length + B.length = L.length := by rw [← hL, List.length_append]
  have hLb : L.length ≤ 300000000 := by omega
  rw [hL] at hl1 hl4
  have HL := hide (⟨hl1, hl4, hbw5⟩ : _ ∧ _ ∧ _)
  clear hown5 hb5 hb15 hbw5 hl1 hl4 hr5
  go_wp2
  clear hL hLl
  go_loopw [8] (fun iv wr => ∃ k n : Nat, k ≤ L.length ∧ iv = .int .i64 k ∧ wr = W5.drewN n) (fun iv _ => L.length - (intOf iv).toNat)
  case atStart => exact ⟨0, 0, Nat.zero_le _, rfl, rfl⟩
  case round =>
    obtain ⟨k, n, hk, rfl, rfl⟩ := hrel
    by_cases hlt : k < L.length
    · have hkI : (k : Int) < (L.length : Int) := by omega
      obtain ⟨r, hr⟩ : ∃ r, L[k]? = some r := ⟨_, List.getElem?_eq_getElem hlt⟩
      rcases HL.out.1 with ⟨_, e⟩ | ⟨g1, d1, e1, _, _, _, hx1⟩
      · rw [e] at hlt; simp at hlt
      rcases HL.out.2.1 with ⟨_, e⟩ | ⟨g4, d4, e4, _, _, _, hx4⟩
      · rw [e] at hlt; simp at hlt
      obtain ⟨rfl, rfl⟩ : p1 = some ⟨g1, 0, none⟩ ∧ c1 = d1 := by cases e1; exact ⟨rfl, rfl⟩
      obtain ⟨rfl, rfl⟩ : p4 = some ⟨g4, 0, none⟩ ∧ c4 = d4 := by cases e4; exact ⟨rfl, rfl⟩
      obtain ⟨y0, y1, y2, y3⟩ := hx1 k r hr
      obtain ⟨z0, z1, z2, z3⟩ := hx4 k r hr
      clear hx1 hx4 hr e1 e4
      go_wp2
      go_quiet (fail)
      go_wp2
      go_roundw
      case rel => exact ⟨k + 1, n + nq, by omega, by go_num, rfl⟩
      case measure => simp [intOf]; omega
    · obtain rfl : k = L.length := by omega
      go_wp2
      go_ret
      refine ⟨rfl, ?_⟩
      have hb := HL.out.2.2
      exact ⟨hb.os, hb.tape, hb.output, hb.size, hb.block⟩
end Go.Proofs.YtoebmpllckpjlaaDoor
