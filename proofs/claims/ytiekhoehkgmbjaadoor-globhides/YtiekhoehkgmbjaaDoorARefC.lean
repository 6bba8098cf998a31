/- The document's closed. -/
import Derived.Test.YtiekhoehkgmbjaaDoorARefB
namespace Go.Proofs.YtiekhoehkgmbjaaDoor
open Go.RowKit Go.Maps

/-- A list that is read. -/
def LRow (n₀ : Nat) (W : World) (v : Value) (xs : List Nat) : Prop := (v = .slice none 0 0 ∧ xs = []) ∨ ∃ g c, g < n₀ ∧ v = .slice (some ⟨g, 0, none⟩) xs.length c ∧ xs.length ≤ c ∧ ∀ (i : Nat) (hi : i < xs.length), W.cell? ⟨g, i, none⟩ = some (.int .i64 ((xs[i] : Nat) : Int))
theorem LRow.below {n₀ : Nat} {W W' : World} {v : Value} {xs : List Nat} (h : LRow n₀ W v xs) (hb : Below n₀ W W') : LRow n₀ W' v xs := by
  rcases h with h | ⟨g, c, h1, h2, h3, h4⟩
  · exact .inl h
  · exact .inr ⟨g, c, h1, h2, h3, fun i hi => (hb.cell (p := ⟨g, i, none⟩) h1).trans (h4 i hi)⟩
theorem LRow.of_own {B : Nat} {W : World} {v : Value} {xs : List Nat} (h : W.ownsRow B 3 1 v xs.length (nats xs)) : LRow W.heap.size W v xs := by
  rcases h.2 with ⟨e, h0⟩ | ⟨g, c, cur, e, _, hg, hc, _⟩
  · exact .inl ⟨e, List.eq_nil_of_length_eq_zero h0⟩
  · have h' := h
    rw [e] at h'
    exact .inr ⟨g, c, (Array.getElem?_eq_some_iff.1 hg).1, e, hc, fun i hi => nats_cell h' hi⟩
theorem run_append_zero (a : Option Addr) (n c : Nat) (ty : TypeId) (w : World) (h : n ≤ c) : (Builtin.append_ #[54, 54] ty #[.slice a n c, .slice none 0 0]).run Tryd.prog w = .ok (.slice a n c) w := by
  obtain ⟨i0, hi0, hz0, hz1, hz2⟩ := info_parts Tryd.info3
  cases a with
  | none => simp [Builtin.append_, run_underlying Tryd.underlying54', sizeOf, typeInfo, zeroValue, hi0, hz0, Builtin.lenOf, h, run_firstCells_none]
  | some b => simp [Builtin.append_, run_underlying Tryd.underlying54', sizeOf, typeInfo, zeroValue, hi0, hz0, Builtin.lenOf, h, run_firstCells_none, storeCells]
structure RRead (n₀ : Nat) (W : World) (a : Nat) (A : List RSt) : Prop where
  al : a < n₀
  ss : ∃ gs cs, gs < n₀ ∧ W.cell? ⟨a, 0, none⟩ = some (.slice (some ⟨gs, 0, none⟩) A.length cs) ∧ ∀ (i : Nat) (st : RSt), A[i]? = some st → ∃ t : ByteArray, t.data.toList = st.set ∧ t.size ≤ 1000000000 ∧ W.cell? ⟨gs, i, none⟩ = some (.string t)
  ts : ∃ gt ct, gt < n₀ ∧ W.cell? ⟨a, 1, none⟩ = some (.slice (some ⟨gt, 0, none⟩) A.length ct) ∧ ∀ (i : Nat) (st : RSt), A[i]? = some st → W.cell? ⟨gt, i, none⟩ = some (.int .i64 (st.to : Int))
  es : ∃ ge ce, ge < n₀ ∧ W.cell? ⟨a, 2, none⟩ = some (.slice (some ⟨ge, 0, none⟩) A.length ce) ∧ ∀ (i : Nat) (st : RSt), A[i]? = some st → ∃ v, W.cell? ⟨ge, i, none⟩ = some v ∧ LRow n₀ W v st.eps
theorem RRead.below {n₀ : Nat} {W W' : World} {a : Nat} {A : List RSt} (h : RRead n₀ W a A) (hb : Below n₀ W W') : RRead n₀ W' a A := by
  obtain ⟨gs, cs, h1, h2, h3⟩ := h.ss
  obtain ⟨gt, ct, t1, t2, t3⟩ := h.ts
  obtain ⟨ge, ce, e1, e2, e3⟩ := h.es
  refine ⟨h.al, ⟨gs, cs, h1, (hb.cell (p := ⟨a, 0, none⟩) h.al).trans h2, fun i st hi => ?_⟩, ⟨gt, ct, t1, (hb.cell (p := ⟨a, 1, none⟩) h.al).trans t2, fun i st hi => (hb.cell (p := ⟨gt, i, none⟩) t1).trans (t3 i st hi)⟩, ⟨ge, ce, e1, (hb.cell (p := ⟨a, 2, none⟩) h.al).trans e2, fun i st hi => ?_⟩⟩
  · obtain ⟨t, q1, q2, q3⟩ := h3 i st hi
    exact ⟨t, q1, q2, (hb.cell (p := ⟨gs, i, none⟩) h1).trans q3⟩
  · obtain ⟨v, q1, q2⟩ := e3 i st hi
    exact ⟨v, (hb.cell (p := ⟨ge, i, none⟩) e1).trans q1, q2.below hb⟩
/-- append of a list that is read, onto a row of one's own. -/
theorem wpList_append_row {ops : Array Oper} {rest : List Oper} {o : Oper} {a : Act} {Q : Exit → Act → World → Prop} (w : World) (hgd : o.guard = none) (s x : Operand)
    (ho : o.op = .call { callee := .builtin .append, args := #[s, x], argTypes := #[54, 54] }) (B n₀ : Nat) (v u : Value) (xs ys : List Nat) (hs : a.eval s = v) (hown : w.ownsRow B 3 1 v xs.length (nats xs)) (hx : a.eval x = u) (hu : LRow n₀ w u ys) (hl : xs.length + ys.length ≤ 1000000000) (hB : B ≤ w.heap.size)
    (h : ∀ v' w', w'.ownsRow B 3 1 v' (xs ++ ys).length (nats (xs ++ ys)) → w.grownBy w' v.ownBlock → Lies v v' w → wpList Tryd.prog ops Q rest (a.put o.dst v') w') : wpList Tryd.prog ops Q (o :: rest) a w := by
  obtain ⟨va, vc, rfl, hvc⟩ : ∃ va vc, v = .slice va xs.length vc ∧ xs.length ≤ vc := by
    rcases hown.2 with ⟨e, h0⟩ | ⟨g, c, cur, e, _, _, hc, _⟩
    · exact ⟨_, _, by rw [e, h0], by omega⟩
    · exact ⟨_, _, e, hc⟩
  have hnil : ys = [] → a.eval x = .slice none 0 0 → wpList Tryd.prog ops Q (o :: rest) a w := fun h0 hx0 => by
    subst h0
    rw [List.append_nil] at h
    refine wpList_plain hgd fun K hK => ?_
    unfold Oper.wp execOp
    simp only [ho, resolve, invoke, builtin, Sem.run_bind, Sem.run_pure, Result.andThen_ok, List.map_toArray, List.map_cons, List.map_nil, hs, hx0, run_append_zero va xs.length vc _ w hvc]
    exact hK _ _ (h _ w hown ⟨rfl, rfl, rfl, Nat.le_refl _, fun _ _ _ => rfl⟩ (.inl rfl))
  obtain ⟨i0, hi0, hz0, hz1, hz2⟩ := info_parts Tryd.info3
  rcases hu with ⟨rfl, h0⟩ | ⟨g, c, hg, rfl, hc, hcell⟩
  · exact hnil h0 hx
  · rcases Nat.eq_zero_or_pos ys.length with h0 | hpos
    · have hy := List.eq_nil_of_length_eq_zero h0
      subst hy
      rw [List.append_nil] at h
      refine wpList_append_own_at w hgd s x 54 ho B 3 i0 _ 1 8 Tryd.underlying54' hi0 hz0 hz1 hz2 rfl (by decide) _ xs.length (nats xs) hs hown ⟨g, 0, none⟩ 0 c [] hx rfl (fun j u hu => by cases hu) (fun u hu => by cases hu) (by unfold maxLen; omega) (by omega) hB ?_
      intro v' w' h1 h2 _ h4
      refine h v' w' (by rw [List.append_nil] at h1; exact h1) h2 ?_
      rcases h4 with e | e
      · exact .inl e
      · exact .inr (fun g2 e2 => by rw [e] at e2; cases e2; exact Nat.le_refl _)
    · refine wpList_append_lies w hgd s x 54 ho B 3 i0 _ 1 8 Tryd.underlying54' hi0 hz0 hz1 hz2 rfl (by decide) _ xs.length (nats xs) hs hown ⟨g, 0, none⟩ ys.length c (nats ys) hx (by rw [nats_length]; omega) (fun j u hu => ?_) (fun u hu => ?_) hpos (by unfold maxLen; omega) (by omega) hB _ rfl ?_
      · have hj := (List.getElem?_eq_some_iff.1 hu).1
        rw [nats_length] at hj
        unfold nats at hu
        rw [List.getElem?_map, List.getElem?_eq_getElem hj] at hu
        cases hu
        have : (⟨g, 0, none⟩ : Addr).add j = ⟨g, j, none⟩ := by unfold Addr.add; split <;> simp_all
        rw [this]
        exact hcell j hj
      · unfold nats at hu
        obtain ⟨y, _, rfl⟩ := List.mem_map.1 hu
        rfl
      · intro g' cap' w' h1 h2 h3 _
        refine h _ w' ?_ h2 ?_
        · have e1 : (xs ++ ys).length = xs.length + ys.length := by simp
          have e2 : nats (xs ++ ys) = nats xs ++ nats ys := by simp [nats]
          rw [e1, e2]; exact h1
        · rcases h3 with e | e
          · exact .inl e.symm
          · exact .inr (fun g2 e2 => by have e3 : g' = g2 := Option.some.inj e2; omega)

theorem insD_len {n : Nat} : ∀ {xs : List Nat}, n ∉ xs → (insD n xs).length = xs.length + 1 := by
  intro xs
  induction xs with
  | nil => intro _; rfl
  | cons x r ih =>
    intro h
    simp only [List.mem_cons, not_or] at h
    simp only [insD]
    by_cases h1 : n < x
    · rw [if_pos h1]; rfl
    · rw [if_neg h1, if_neg h.1, List.length_cons, ih h.2]; rfl
theorem asc_len : ∀ {n : Nat} {xs : List Nat}, Asc xs → (∀ y ∈ xs, y < n) → xs.length ≤ n := by
  have key : ∀ (xs : List Nat) (lo n : Nat), Asc xs → (∀ y ∈ xs, lo ≤ y ∧ y < n) → xs.length + lo ≤ n ∨ xs = [] := by
    intro xs
    induction xs with
    | nil => intro lo n _ _; exact .inr rfl
    | cons x r ih =>
      intro lo n h hb
      have hx := List.pairwise_cons.1 h
      have h1 := hb x (by simp)
      rcases ih (x + 1) n hx.2 (fun y hy => ⟨hx.1 y hy, (hb y (by simp [hy])).2⟩) with h2 | h2
      · exact .inl (by rw [List.length_cons]; omega)
      · subst h2; exact .inl (by simp; omega)
  intro n xs h hb
  rcases key xs 0 n h (fun y hy => ⟨Nat.zero_le _, hb y hy⟩) with h1 | h1
  · omega
  · subst h1; simp
def Apart (u v : Value) : Prop := ∀ g, u.ownBlock = some g → v.ownBlock ≠ some g
theorem own_lt {W : World} {B t sz n g : Nat} {v : Value} {xs : List Value} (h : W.ownsRow B t sz v n xs) (hg : v.ownBlock = some g) : g < W.heap.size := by
  obtain ⟨_, cur, hc⟩ := own_cells h hg
  exact (Array.getElem?_eq_some_iff.1 hc).1
theorem own_far {W W' : World} {B t sz n : Nat} {v u : Value} {xs : List Value} (h : W.ownsRow B t sz v n xs) (hg : W.grownBy W' u.ownBlock) (ha : Apart v u) : W'.ownsRow B t sz v n xs := by
  refine ⟨h.1, ?_⟩
  rcases h.2 with h2 | ⟨g, cap, cur, e, hbb, hg2, r⟩
  · exact .inl h2
  · exact .inr ⟨g, cap, cur, e, hbb, (hg.block g (Array.getElem?_eq_some_iff.1 hg2).1 (fun e2 => ha g (by rw [e]; rfl) e2.symm)).trans hg2, r⟩
theorem own_shape {W : World} {B : Nat} {v : Value} {xs : List Nat} (h : W.ownsRow B 3 1 v xs.length (nats xs)) : ∃ a c, v = .slice a xs.length c ∧ xs.length ≤ c := by
  rcases h.2 with ⟨e, h0⟩ | ⟨g, c, cur, e, _, _, hc, _⟩
  · exact ⟨_, _, by rw [e, h0], by omega⟩
  · exact ⟨_, _, e, hc⟩
set_option maxRecDepth 100000 in
set_option maxHeartbeats 4000000 in
theorem closed_any (n₀ a : Nat) (A : List RSt) (lv : Value) (l0 : List Nat) (w : World) (hR : RRead n₀ w a A) (hW : Wf A) (hl : LRow w.heap.size w lv l0) (hl0 : ∀ x ∈ l0, x < A.length) (hsz : epsT A + A.length + l0.length ≤ 100000000) (hn : n₀ ≤ w.heap.size) :
    Calls Tryd.prog 41 #[.pointer (some ⟨a, 0, none⟩), lv] w fun e w' => ∃ v out, e = .returned v ∧ ClosedL A l0 out ∧ w'.ownsRow w.heap.size 3 1 v out.length (nats out) ∧ Below w.heap.size w w' := by
  have nl : w.ownsRow w.heap.size 3 1 (.slice none 0 0) ([] : List Nat).length (nats []) := ⟨rfl, .inl ⟨rfl, rfl⟩⟩
  go_enter Tryd.func41, Tryd.ntmps41
  go_wp2_with (at_builtin; refine wpList_append_row _ rfl (.tmp 9) (.tmp 10) rfl w.heap.size w.heap.size _ _ [] l0 rfl nl rfl hl (by simp; omega) (Nat.le_refl _) ?_; intro tv1 w1 hown1 hg1 hlies1)
  rw [List.nil_append] at hown1
  have hb1 : Below w.heap.size w w1 := ⟨hg1.os, hg1.tape, hg1.output, hg1.size, fun k hk => hg1.block k hk (fun e => by cases e)⟩
  go_loopg [5, 6] (epsT A + A.length + l0.length) (fun k tv ov wr => ∃ todo out : List Nat, wr.ownsRow w.heap.size 3 1 tv todo.length (nats todo) ∧ wr.ownsRow w.heap.size 3 1 ov out.length (nats out) ∧ Apart tv ov ∧ CI A l0 k todo out ∧ k ≤ epsT A + A.length + l0.length ∧ Below w.heap.size w wr)
  case atStart => exact ⟨l0, [], hown1, ⟨rfl, .inl ⟨rfl, rfl⟩⟩, fun g _ e => (by cases e), CI.start hl0, Nat.le_refl _, hb1⟩
  case round =>
    obtain ⟨todo, out, ht, ho, hap, hci, hk, hb⟩ := hrel
    have hB : w.heap.size ≤ wr.heap.size := hb.size
    obtain ⟨oa, oc, rfl, hoc⟩ := own_shape ho
    have hol : out.length ≤ 100000000 := by
      have h1 : out.length ≤ A.length := by
        exact asc_len hci.asc (fun y hy => hci.lt y (.inl hy))
      omega
    have htl : todo.length ≤ 100000000 := by have := hci.mu; omega
    rcases List.eq_nil_or_concat todo with rfl | ⟨t, s, rfl⟩
    · obtain ⟨ta, tc, rfl, _⟩ := own_shape ht
      have HD := hide hci.done
      have HO := hide ho
      clear hci ho ht
      go_wp2
      go_ret
      exact ⟨_, out, rfl, HD.out, HO.out, hb⟩
    · rw [List.concat_eq_append] at ht hci htl
      have htll : (t ++ [s]).length = t.length + 1 := by simp
      obtain ⟨gt, ct, rfl, hgtB, hgtl⟩ := ht.form (by simp)
      have hct : t.length + 1 ≤ ct := by
        rcases ht.2 with ⟨e, _⟩ | ⟨g', c', cur, e, _, _, h, _⟩
        · cases e
        · simp only [Value.slice.injEq] at e; rw [e.2.2]; omega
      have cl : wr.cell? ⟨gt, t.length, none⟩ = some (.int .i64 (s : Int)) := by
        rw [nats_cell ht (i := t.length) (by simp)]
        congr 3
        simp
      have ht' : wr.ownsRow w.heap.size 3 1 (.slice (some ⟨gt, 0, none⟩) t.length ct) t.length (nats t) := by
        have := ownsRow_take ht (m := t.length) (by simp)
        have e1 : (nats (t ++ [s])).take t.length = nats t := by simp [nats]
        rwa [e1] at this
      have hap' : Apart (.slice (some ⟨gt, 0, none⟩) t.length ct) (.slice oa out.length oc) := hap
      have hsA := hci.lt s (.inr (by simp))
      have hwi := with_any w.heap.size (.slice oa out.length oc) out s wr ho hci.asc hol hB
      have hsub : ((t.length + 1 : Nat) : Int) - 1 = (t.length : Int) := by omega
      rw [htll]
      have hRr := hR.below (hb.mono hn)
      obtain ⟨ge, ce, hge, hge2, hge3⟩ := hRr.es
      obtain ⟨ev, hev, hlrow⟩ := hge3 s A[s] (List.getElem?_eq_getElem hsA)
      have HT := hide ht'
      have HC := hide hci
      clear ht ht' hci hap
      by_cases hin : s ∈ out
      · have hins := insD_in HC.out.asc hin
        obtain ⟨hci2, hm1⟩ := HC.out.seen hin
        go_wp2_with (go_at_call 43; refine hwi.mono ?_; rintro e w2 ⟨v2, rfl, hr2, hg2, hl2, hsame⟩; obtain ⟨rfl, rfl⟩ := hsame hin)
        go_roundg (gk - 1)
        case measure => omega
        case rel => exact ⟨t, out, HT.out, ho, hap', hci2, by omega, hb⟩
      · have hins := insD_len hin
        obtain ⟨hci2, hm1⟩ := HC.out.new hW hin
        have heps : epsOf A s = A[s].eps := by unfold epsOf; rw [List.getElem?_eq_getElem hsA]
        have hmu2 := hci2.mu
        rw [heps, List.length_append] at hmu2
        have hgtI : (out.length : Int) < (out.length : Int) + 1 := by omega
        have hsAI : (s : Int) < (A.length : Int) := by omega
        have hwi2 : Calls Tryd.prog 43 #[.slice oa out.length oc, .int .i64 (s : Int)] wr fun e w' => ∃ (a2 : Option Addr) (c2 : Nat), e = .returned (.slice a2 (out.length + 1) c2) ∧ w'.ownsRow w.heap.size 3 1 (.slice a2 (out.length + 1) c2) (out.length + 1) (nats (insD s out)) ∧ wr.grownBy w' (Value.slice oa out.length oc).ownBlock ∧ Lies (.slice oa out.length oc) (.slice a2 (out.length + 1) c2) wr := hwi.mono (fun e w' h => by
          obtain ⟨v', he, h1, h2, h3, _⟩ := h
          rw [hins] at h1
          have h1' : w'.ownsRow w.heap.size 3 1 v' (insD s out).length (nats (insD s out)) := by rw [hins]; exact h1
          obtain ⟨a2, c2, e2, _⟩ := own_shape h1'
          rw [hins] at e2
          subst e2
          exact ⟨a2, c2, he, h1, h2, h3⟩)
        clear hwi
        have hB6 : Below w.heap.size w wr := hb
        go_wp2_with (first
          | (go_at_call 43; refine hwi2.mono ?_; rintro e w2 ⟨a2, c2, rfl, hr2, hg2, hl2⟩; have hb2 : Below w.heap.size wr w2 := ⟨hg2.os, hg2.tape, hg2.output, hg2.size, fun k hk => hg2.block k (by omega) (fun e => by have := (own_cells ho e.symm).1; omega)⟩; have d2 := (hb2.cell (p := ⟨a, 2, none⟩) (Nat.lt_of_lt_of_le hR.al hn)).trans hge2; have d3 := (hb2.cell (p := ⟨ge, s, none⟩) (Nat.lt_of_lt_of_le hge hn)).trans hev; have ht2 := own_far HT.out hg2 hap'; have hlr2 := hlrow.below (hb2.mono hn))
          | (at_builtin; refine wpList_append_row _ rfl (.tmp 35) (.tmp 42) rfl w.heap.size n₀ _ _ t A[s].eps rfl ht2 rfl hlr2 (by omega) (Nat.le_trans hB hb2.size) ?_; intro tv3 w3 hown3 hg3 hlies3))
        have hap2 : Apart (.slice (some ⟨gt, 0, none⟩) t.length ct) (.slice a2 (out.length + 1) c2) := fun g hg e => by
          cases hg
          rcases hl2 with e' | e'
          · exact hap' gt rfl (e' ▸ e)
          · have := e' gt e; omega
        have hap3 : Apart tv3 (.slice a2 (out.length + 1) c2) := fun g hg e => by
          rcases hlies3 with e' | e'
          · exact hap2 g (e' ▸ hg) e
          · have h1 := e' g hg
            have h2 := own_lt hr2 e
            omega
        have hr3 : w3.ownsRow w.heap.size 3 1 (.slice a2 (out.length + 1) c2) (out.length + 1) (nats (insD s out)) := own_far hr2 hg3 (fun g hg e => hap2 g e hg)
        have hb3 : Below w.heap.size w2 w3 := ⟨hg3.os, hg3.tape, hg3.output, hg3.size, fun k hk => hg3.block k (Nat.lt_of_lt_of_le hk (Nat.le_trans hB hb2.size)) (fun e => by have e' : k = gt := Option.some.inj e; omega)⟩
        go_roundg (gk - 1)
        case measure => omega
        case rel =>
          refine ⟨t ++ A[s].eps, insD s out, hown3, by rw [hins]; exact hr3, hap3, by rw [← heps]; exact hci2, by omega, hb.trans (hb2.trans hb3)⟩
end Go.Proofs.YtiekhoehkgmbjaaDoor
