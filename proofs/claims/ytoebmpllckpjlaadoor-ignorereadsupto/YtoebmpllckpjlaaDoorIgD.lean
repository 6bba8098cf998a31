/- ignore.Read: the rules of a text. -/
import Derived.Test.YtoebmpllckpjlaaDoorIgC
import Derived.Test.YtoebmpllckpjlaaDoorSeqTenS
namespace Go.Proofs.YtoebmpllckpjlaaDoor
open Go.RowKit Go.Maps Go.Shelf
attribute [local go_sem] Oper.semAt_some

def ruleL (r : RuleD) : List Value := [.bool r.nt, .bool r.dr, .bool r.fx, .string r.pt]
def rulesL (rs : List RuleD) : List Value := rs.flatMap ruleL
theorem rulesL_snoc (rs : List RuleD) (r : RuleD) : rulesL (rs ++ [r]) = rulesL rs ++ ruleL r := by simp [rulesL]
/-- The rules of a text. -/
def rulesOf (s : ByteArray) : List RuleD := (cutS 10 s).filterMap lineR
theorem Tryd.info28r : (Tryd.prog.info? 28).map (fun i => (i.zero, i.size, i.bytes)) = some (some (.agg #[.bool false, .bool false, .bool false, .string ⟨#[]⟩]), 4, 24) := by kernel_rfl
theorem Tryd.underlying22r : Tryd.prog.underlying 22 = some (.slice 28) := by kernel_rfl
theorem row_notG {B n k e z : Nat} {W : World} {v : Value} {xs : List Value} (h : W.ownsRow B e z v n xs) (hk : k < B) : some k ≠ v.ownBlock := by
  intro e
  have := (h.lt k e.symm).1
  omega
theorem owns_baseG {B B' n e z : Nat} {W : World} {v : Value} {xs : List Value} (hB : B ≤ B') (h : W.ownsRow B' e z v n xs) : W.ownsRow B e z v n xs := by
  refine ⟨h.1, ?_⟩
  rcases h.2 with h2 | ⟨g, cap, cur, e, hb, r⟩
  · exact .inl h2
  · exact .inr ⟨g, cap, cur, e, by omega, r⟩
theorem keepsFrom_below {B : Nat} {W W' : World} (h : Below W.heap.size W W') : KeepsFrom B W W' := ⟨h.size, fun k _ _ hk _ => (h.block k (Array.getElem?_eq_some_iff.1 hk).1).trans hk⟩
/-- What one 'rules = append(rules, r)' does. -/
theorem push_rule {W w1 : World} {b0 : Nat} {v v' : Value} {k m : Nat} {xs ys : List Value} {tmp : Obj} (hsz : b0 + 4 ≤ W.heap.size)
    (hv : Boxed W b0 22 v) (hrow : W.ownsRow (b0 + 4) 28 4 v k xs) (hown' : w1.ownsRow (b0 + 4) 28 4 v' m ys) (hgrow : (W.alloc tmp).grownBy w1 v.ownBlock) :
    Boxed w1 b0 22 v ∧ Boxed (w1.setCell ⟨b0, 0, none⟩ v') b0 22 v' ∧ (w1.setCell ⟨b0, 0, none⟩ v').ownsRow (b0 + 4) 28 4 v' m ys ∧ KeepsOthers W (w1.setCell ⟨b0, 0, none⟩ v') ∧ Below b0 W (w1.setCell ⟨b0, 0, none⟩ v') ∧ Ten.KeepBoxes (b0 + 1) (b0 + 2) (b0 + 3) W (w1.setCell ⟨b0, 0, none⟩ v') := by
  obtain ⟨a1, a2, _, a4, a5⟩ := hv.appended (by decide) (owns_baseG (by omega) hrow) (show b0 ≤ W.heap.size by omega) (Nat.le_refl _) (owns_baseG (B := b0) (by omega) hown') hgrow
  refine ⟨a1, a2, hown'.kept (grownBy_setCell' w1 b0 v') (.inr (row_notG hown' (by omega)).symm), a4, a5, ?_⟩
  intro j hj
  have hj1 : b0 < j ∧ j < b0 + 4 := by omega
  have e1 := (grownBy_setCell' w1 b0 v').block j (by have := hgrow.size; simp at this; omega) (by simp; omega)
  have e2 := hgrow.block j (by simp; omega) (row_notG hrow hj1.2)
  rw [e1, e2]
  exact (World.grownBy_alloc W tmp none).block j (by omega) (by simp)
theorem cut_size {s x : ByteArray} {c : UInt8} {pre r : List ByteArray} (h : cutS c s = pre ++ x :: r) : x.size ≤ s.size := by
  have hm : x ∈ cutS c s := by rw [h]; simp
  unfold cutS at hm
  obtain ⟨p, hp, rfl⟩ := List.mem_map.1 hm
  have key : ∀ (l p : List UInt8), p ∈ splitL c l → p.length ≤ l.length := by
    intro l
    induction l with
    | nil => intro p hp; simp [splitL] at hp; subst hp; simp
    | cons y t ih =>
      intro p hp
      by_cases hy : y = c
      · subst hy
        rw [split_same] at hp
        rcases List.mem_cons.1 hp with rfl | hp
        · simp
        · have := ih p hp; simp; omega
      · obtain ⟨q, qs, e1, e2⟩ := split_other c y t hy
        rw [e2] at hp
        rcases List.mem_cons.1 hp with rfl | hp
        · have := ih q (by rw [e1]; simp); simp; omega
        · have := ih p (by rw [e1]; simp [hp]); simp; omega
  have := key _ p hp
  show (⟨p.toArray⟩ : ByteArray).size ≤ _
  rw [bs_size, ← size_list s]
  exact this
theorem fm_none {pre : List ByteArray} {x : ByteArray} (h : lineR x = none) : (pre ++ [x]).filterMap lineR = pre.filterMap lineR := by simp [h]
theorem fm_some {pre : List ByteArray} {x : ByteArray} {r : RuleD} (h : lineR x = some r) : (pre ++ [x]).filterMap lineR = pre.filterMap lineR ++ [r] := by simp [h]
set_option maxRecDepth 100000 in
set_option maxHeartbeats 2000000 in
theorem read_in (n : Nat) (hn : 8 ≤ n) (s : ByteArray) (hs : s.size ≤ 1073741824) (w : World) (hM : MaxW w) (h2 : 2 < w.heap.size) :
    CallsIn Fence.wide n Tryd.prog 5 #[.string s] w fun e W' => ∃ v, e = .returned v ∧ W'.ownsRow w.heap.size 28 4 v (rulesOf s).length (rulesL (rulesOf s)) ∧ Below w.heap.size w W' := by
  have h1 : 1 ≤ n := by omega
  have hcl := cutS_length 10 s
  obtain ⟨i0, hi, hz0, hz1, hz2⟩ := info_parts Tryd.info28r
  refine callsIn_of_wp_marks Tryd.func5 rfl trivial ?_ rfl
  simp only [Tryd.ntmps5, List.size_toArray, List.length_cons, List.length_nil, Nat.reduceAdd, Nat.reduceSub, Array.replicate_succ, Array.replicate_zero, List.push_toArray, List.append_toArray, List.nil_append, List.cons_append]
  gi_wp2_with (refine ⟨trivial, ?_⟩; gi_at_call 8; refine (Ten.SplitSeq_in (n - 1) (by omega) _ _ _).mono ?_; rintro e w' ⟨rfl, rfl⟩)
  obtain ⟨w4, hw4⟩ : ∃ w4, (((w.alloc (.cells #[.slice none 0 0] 22)).alloc (.cells #[.string s] 9)).alloc (.cells #[.string ⟨#[10]⟩] 9)).alloc (.cells #[.int .i64 0] 3) = w4 := ⟨_, rfl⟩
  rw [hw4]
  have bO : Boxed w4 w.heap.size 22 (.slice none 0 0) := by rw [← hw4]; exact (((Boxed.new w 22 (.slice none 0 0)).alloc _).alloc _).alloc _
  have bS : Boxed w4 (w.heap.size + 1) 9 (.string s) := by
    rw [← hw4]
    have := Boxed.new (w.alloc (.cells #[.slice none 0 0] 22)) 9 (.string s)
    rw [World.size_alloc] at this
    exact (this.alloc _).alloc _
  have bP : Boxed w4 (w.heap.size + 2) 9 (.string ⟨#[10]⟩) := by
    rw [← hw4]
    have := Boxed.new ((w.alloc (.cells #[.slice none 0 0] 22)).alloc (.cells #[.string s] 9)) 9 (.string ⟨#[10]⟩)
    rw [World.size_alloc, World.size_alloc] at this
    exact this.alloc _
  have bQ : Boxed w4 (w.heap.size + 3) 3 (.int .i64 0) := by
    rw [← hw4]
    have := Boxed.new (((w.alloc (.cells #[.slice none 0 0] 22)).alloc (.cells #[.string s] 9)).alloc (.cells #[.string ⟨#[10]⟩] 9)) 3 (.int .i64 0)
    rw [World.size_alloc, World.size_alloc, World.size_alloc] at this
    exact this
  have hB0 : Below w.heap.size w w4 := by
    rw [← hw4]; exact ((((Below.refl _ w).alloc (Nat.le_refl _) _).alloc (by simp) _).alloc (by simp; omega) _).alloc (by simp; omega) _
  have hsz4 : w4.heap.size = w.heap.size + 4 := by rw [← hw4]; simp
  clear hw4
  refine Ten.wpIn_range_boxS rfl h1 (gf := 24) (lb := #[.pointer (some ⟨w.heap.size + 2, 0, none⟩), .pointer (some ⟨w.heap.size + 1, 0, none⟩), .pointer (some ⟨w.heap.size + 3, 0, none⟩)]) rfl trivial (enters_of Tryd.func24 (by kernel_rfl) rfl)
    (bx := w.heap.size + 1) (by omega) (Ten.split_seqS (n - 1) (by omega) (w.heap.size + 1) (w.heap.size + 2) (w.heap.size + 3) (by omega) (by omega) s hs w4 bS bP bQ)
    (fun {A B C} h k j hj => (k j hj).trans (h j hj)) (fun W l o o' hl _ j hj => World.putObj_heap_other (by omega)) (fun _ => rfl)
    (fun (pre : List ByteArray) W => (∃ v, Boxed W w.heap.size 22 v ∧ W.ownsRow (w.heap.size + 4) 28 4 v (pre.filterMap lineR).length (rulesL (pre.filterMap lineR)) ∧ True) ∧ Below w.heap.size w W ∧ w.heap.size + 4 ≤ W.heap.size)
    (fun _ _ _ => False)
    (OwnFrom.and (Own.from (holdsRow_own (w.heap.size + 4) w.heap.size 22 28 4 (fun pre : List ByteArray => (pre.filterMap lineR).length) (fun pre : List ByteArray => rulesL (pre.filterMap lineR)) (fun _ _ => True)) _) (OwnFrom.and (ownFrom_below (Nat.le_refl _) (by omega)) (fun _ _ _ _ hs hg _ => Nat.le_trans hs hg.size)))
    (fun _ _ _ _ _ h _ _ => h)
    (fun p A v hs => by
      obtain ⟨⟨u, hu, hr, _⟩, hB, hz⟩ := hs
      exact ⟨⟨u, hu.kept (grownBy_setCell' A (w.heap.size + 1) v) (fun e => by have := Option.some.inj e; omega), hr.kept (grownBy_setCell' A (w.heap.size + 1) v) (.inr (row_notG hr (by omega)).symm), trivial⟩, hB.setCell (p := ⟨w.heap.size + 1, 0, none⟩) (by show w.heap.size ≤ w.heap.size + 1; omega) _, Nat.le_trans hz (grownBy_setCell' A (w.heap.size + 1) v).size⟩)
    ⟨⟨_, bO, World.ownsRow_nil _ _ _ _, trivial⟩, hB0, by omega⟩
    (fun x => { tmps := #[.string s, undef, .slice none 0 0, .pointer (some ⟨w.heap.size, 0, none⟩), .string x, undef, undef, .string s, .func (.func 24) #[] #[.pointer (some ⟨w.heap.size + 2, 0, none⟩), .pointer (some ⟨w.heap.size + 1, 0, none⟩), .pointer (some ⟨w.heap.size + 3, 0, none⟩)], .string x, undef, undef, undef, undef, undef, undef, undef, undef, undef, undef, undef], defers := [] }) ?assign ?body ?done ?stop
  case assign =>
    intro l x W K hK
    gi_wp2
    exact hK
  case stop =>
    intro D c pre W _ _ h
    exact h.elim
  case body =>
    rintro l pre x W ⟨⟨v, hv, hrow, _⟩, hB, hWs⟩ ⟨rest, hcut⟩
    have hxs := cut_size hcut
    have hpl : (pre.filterMap lineR).length ≤ pre.length := List.length_filterMap_le _ _
    have hpb : pre.length ≤ s.size := by rw [hcut] at hcl; simp at hcl; omega
    have hrl := readLine_any x W (by omega) (hM.below h2 hB) (by omega)
    have h11 : 1 ≤ n - 1 - 1 := by omega
    have HRL := hide hrl
    cases ho : lineR x with
    | none =>
      rw [ho] at HRL
      have HFM := hide (fm_none (pre := pre) ho)
      have HALL := hide (⟨hv, hrow, hB, hWs⟩ : _ ∧ _ ∧ _ ∧ _)
      clear hv hrow hB hWs hcut hxs hpl hpb hrl ho
      gi_wp2_with (refine ⟨trivial, ?_⟩; gi_at_call 9; refine (CallsIn.inRound l (callsIn_wide.2 HRL.out)).mono ?_; rintro e W2 ⟨rfl, hb2⟩; simp only [lineV, ruleV, noRule])
      obtain ⟨hv, hrow, hB, hWs⟩ := HALL.out
      have hb3 : Below W.heap.size W (W2.alloc (.cells #[.bool false, .bool false, .bool false, .string ⟨#[]⟩] 28)) := hb2.alloc hb2.size _
      exact ⟨keepsFrom_below hb3, fun j hj => hb3.block j (by omega), ⟨v, (hb3.block _ hv.lt).trans hv, by rw [HFM.out]; exact row_keep hrow (fun k c hk _ => (hb3.block k (Array.getElem?_eq_some_iff.1 hk).1).trans hk), trivial⟩, hB.trans (hb3.mono hB.size), Nat.le_trans hWs hb3.size⟩
    | some r =>
      rw [ho] at HRL
      have HFM := hide (fm_some (pre := pre) ho)
      have HALL := hide (⟨hv, hrow, hB, hWs⟩ : _ ∧ _ ∧ _ ∧ _)
      clear hcut hxs hrl ho hv hrow hB hWs
      gi_wp2_with first
        | (refine ⟨trivial, ?_⟩; gi_at_call 9; refine (CallsIn.inRound l (callsIn_wide.2 HRL.out)).mono ?_; rintro e W2 ⟨rfl, hb2⟩; simp only [lineV, ruleV]; have hb3 : Below W.heap.size W (W2.alloc (.cells #[.bool r.nt, .bool r.dr, .bool r.fx, .string r.pt] 28)) := hb2.alloc hb2.size _; have hv3 : Boxed (W2.alloc (.cells #[.bool r.nt, .bool r.dr, .bool r.fx, .string r.pt] 28)) w.heap.size 22 v := (hb3.block _ HALL.out.1.lt).trans HALL.out.1; have hrow3 : (W2.alloc (.cells #[.bool r.nt, .bool r.dr, .bool r.fx, .string r.pt] 28)).ownsRow (w.heap.size + 4) 28 4 v (pre.filterMap lineR).length (rulesL (pre.filterMap lineR)) := row_keep HALL.out.2.1 (fun k c hk _ => (hb3.block k (Array.getElem?_eq_some_iff.1 hk).1).trans hk); have hc3 := hv3.cell; have hs3 : w.heap.size + 4 ≤ W2.heap.size := Nat.le_trans HALL.out.2.2.2 hb2.size; have HB3 := hide hb3; have HV3 := hide hv3; have HR3 := hide hrow3; clear hb3 hv3 hrow3)
        | (gi_at_builtin; refine wpListIn_append_own _ rfl _ _ 22 rfl (w.heap.size + 4) 28 i0 _ 4 24 Tryd.underlying22r hi hz0 hz1 hz2 rfl (by decide) _ _ _ rfl (HR3.out.alloc _) ⟨W2.heap.size + 1, 0, none⟩ 1 1 (ruleL r) rfl rfl (World.news_of_block (cs := #[.bool r.nt, .bool r.dr, .bool r.fx, .string r.pt]) (by have := World.alloc_heap_new (W2.alloc (.cells #[.bool r.nt, .bool r.dr, .bool r.fx, .string r.pt] 28)) (.cells #[.bool r.nt, .bool r.dr, .bool r.fx, .string r.pt] 28); rw [World.size_alloc] at this; exact this)) (by simp [ruleL, Value.oneCell']) (by unfold maxLen; omega) (by omega) (by simp; omega) ?_; intro v' w1 hown' hgrow _; obtain ⟨g', cap', rfl⟩ := ownsRow_succ hown'; obtain ⟨hv1, hv2, hr2, hk2, hb5, hq2⟩ := push_rule (by simp; omega) HV3.out HR3.out hown' hgrow; have hc1 := hv1.cell; have hf1 := hv1.frozen)
      obtain ⟨hv, hrow, hB, hWs⟩ := HALL.out
      have hz5 := hb5.size
      have hb3 := HB3.out
      refine ⟨(keepsFrom_below hb3).trans (hk2.from _), fun j hj => (hq2 j hj).trans (hb3.block j (by omega)), ⟨_, hv2, ?_, trivial⟩, (hB.trans (hb3.mono hB.size)).trans hb5, by have := hb3.size; omega⟩
      rw [HFM.out, List.length_append, rulesL_snoc]
      exact hr2
  case done =>
    rintro D ys W hD rfl ⟨⟨v, hv, hrow, _⟩, hB, _⟩ hK
    have hc := hv.cell
    gi_wp2
    refine ⟨by simp, .inl ⟨_, _, rfl, run_takeDeferred hK, ?_⟩⟩
    refine ⟨_, results_tmp rfl _ _ _, v, rfl, ?_, hB.trans (belowK_b (w := w) (Nat.le_refl _) W D _ _ (by omega) hK rfl rfl)⟩
    exact owns_baseG (by omega) (ownsRow_putObj hrow _ hK rfl)
end Go.Proofs.YtoebmpllckpjlaaDoor
