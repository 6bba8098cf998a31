/- Merged: IgD, IgE, Last, Base. -/
import Derived.Test.YtfemboojdablhaaGreatDoorMi21
import Derived.Test.YtfemboojdablhaaGreatDoorMi11
import Derived.Lib.Walk
namespace Go.Proofs.YtfemboojdablhaaGreatDoor
open Go.RowKit Go.Maps Go.Shelf
attribute [local go_sem] Oper.semAt_some
def ruleL (r : RuleD) : List Value := [.bool r.nt, .bool r.dr, .bool r.fx, .string r.pt]
def rulesL (rs : List RuleD) : List Value := rs.flatMap ruleL
theorem rulesL_snoc (rs : List RuleD) (r : RuleD) : rulesL (rs ++ [r]) = rulesL rs ++ ruleL r := by simp [rulesL]
def rulesOf (s : ByteArray) : List RuleD := (cutS 10 s).filterMap lineR
theorem Tryz.info28r : (Tryz.prog.info? 153).map (fun i => (i.zero, i.size, i.bytes)) = some (some (.agg #[.bool false, .bool false, .bool false, .string ⟨#[]⟩]), 4, 24) := by kernel_rfl
theorem Tryz.underlying22r : Tryz.prog.underlying 110 = some (.slice 153) := by kernel_rfl
theorem row_notG {B n k e z : Nat} {W : World} {v : Value} {xs : List Value} (h : W.ownsRow B e z v n xs) (hk : k < B) : some k ≠ v.ownBlock := by
  intro e
  have := (h.lt k e.symm).1
  omega
theorem owns_baseG {B B' n e z : Nat} {W : World} {v : Value} {xs : List Value} (hB : B ≤ B') (h : W.ownsRow B' e z v n xs) : W.ownsRow B e z v n xs := by
  refine ⟨h.1, ?_⟩
  rcases h.2 with h2 | ⟨g, cap, cur, e, hb, r⟩
  · exact .inl h2
  · exact .inr ⟨g, cap, cur, e, by omega, r⟩
theorem keepsFrom_below {B : Nat} {W W' : World} (h : Below W.heap.size W W') : KeepsFrom B W W' := ⟨h.size, fun k _ _ hk _ => (h.block k (Array.getElem?_eq_some_iff.1 hk).1).trans hk⟩
theorem push_rule {W w1 : World} {b0 : Nat} {v v' : Value} {k m : Nat} {xs ys : List Value} {tmp : Obj} (hsz : b0 + 4 ≤ W.heap.size)
    (hv : Boxed W b0 110 v) (hrow : W.ownsRow (b0 + 4) 153 4 v k xs) (hown' : w1.ownsRow (b0 + 4) 153 4 v' m ys) (hgrow : (W.alloc tmp).grownBy w1 v.ownBlock) :
    Boxed w1 b0 110 v ∧ Boxed (w1.setCell ⟨b0, 0, none⟩ v') b0 110 v' ∧ (w1.setCell ⟨b0, 0, none⟩ v').ownsRow (b0 + 4) 153 4 v' m ys ∧ KeepsOthers W (w1.setCell ⟨b0, 0, none⟩ v') ∧ Below b0 W (w1.setCell ⟨b0, 0, none⟩ v') ∧ Ten.KeepBoxes (b0 + 1) (b0 + 2) (b0 + 3) W (w1.setCell ⟨b0, 0, none⟩ v') := by
  obtain ⟨a1, a2, _, a4, a5⟩ := hv.appended (by decide) (owns_baseG (by omega) hrow) (show b0 ≤ W.heap.size by omega) (Nat.le_refl _) (owns_baseG (B := b0) (by omega) hown') hgrow
  refine ⟨a1, a2, hown'.kept (grownBy_setCell' w1 b0 v') (.inr (row_notG hown' (by omega)).symm), a4, a5, ?_⟩
  intro j hj
  have hj1 : b0 < j ∧ j < b0 + 4 := by omega
  have e1 := (grownBy_setCell' w1 b0 v').block j (by have := hgrow.size; simp at this; omega) (by simp; omega)
  have e2 := hgrow.block j (by simp; omega) (row_notG hrow hj1.2)
  rw [e1, e2]
  exact (World.grownBy_alloc W tmp none).block j (by omega) (by simp)
theorem cut_size {s x : ByteArray} {c : UInt8} {pre r : List ByteArray} (h : cutS c s = pre ++ x :: r) : x.size ≤ s.size := by
  have hm : x ∈ cutS c s := by rw [h]; simp
  unfold cutS at hm
  obtain ⟨p, hp, rfl⟩ := List.mem_map.1 hm
  have key : ∀ (l p : List UInt8), p ∈ splitL c l → p.length ≤ l.length := by
    intro l
    induction l with
    | nil => intro p hp; simp [splitL] at hp; subst hp; simp
    | cons y t ih =>
      intro p hp
      by_cases hy : y = c
      · subst hy
        rw [split_same] at hp
        rcases List.mem_cons.1 hp with rfl | hp
        · simp
        · have := ih p hp; simp; omega
      · obtain ⟨q, qs, e1, e2⟩ := split_other c y t hy
        rw [e2] at hp
        rcases List.mem_cons.1 hp with rfl | hp
        · have := ih q (by rw [e1]; simp); simp; omega
        · have := ih p (by rw [e1]; simp [hp]); simp; omega
  have := key _ p hp
  show (⟨p.toArray⟩ : ByteArray).size ≤ _
  rw [bs_size, ← size_list s]
  exact this
theorem fm_none {pre : List ByteArray} {x : ByteArray} (h : lineR x = none) : (pre ++ [x]).filterMap lineR = pre.filterMap lineR := by simp [h]
theorem fm_some {pre : List ByteArray} {x : ByteArray} {r : RuleD} (h : lineR x = some r) : (pre ++ [x]).filterMap lineR = pre.filterMap lineR ++ [r] := by simp [h]
set_option maxRecDepth 100000 in
set_option maxHeartbeats 2000000 in
theorem read_in (n : Nat) (hn : 8 ≤ n) (s : ByteArray) (hs : s.size ≤ 1073741824) (w : World) (hM : MaxW w) (h2 : 9 < w.heap.size) :
    CallsIn Fence.wide n Tryz.prog 84 #[.string s] w fun e W' => ∃ v, e = .returned v ∧ W'.ownsRow w.heap.size 153 4 v (rulesOf s).length (rulesL (rulesOf s)) ∧ Below w.heap.size w W' := by
  have h1 : 1 ≤ n := by omega
  have hcl := cutS_length 10 s
  obtain ⟨i0, hi, hz0, hz1, hz2⟩ := info_parts Tryz.info28r
  refine callsIn_of_wp_marks Tryz.func84 rfl trivial ?_ rfl
  simp only [Tryz.ntmps84, List.size_toArray, List.length_cons, List.length_nil, Nat.reduceAdd, Nat.reduceSub, Array.replicate_succ, Array.replicate_zero, List.push_toArray, List.append_toArray, List.nil_append, List.cons_append]
  gi_wp2_with (refine ⟨trivial, ?_⟩; gi_at_call 123; refine (Ten.SplitSeq_in (n - 1) (by omega) _ _ _).mono ?_; rintro e w' ⟨rfl, rfl⟩)
  obtain ⟨w4, hw4⟩ : ∃ w4, (((w.alloc (.cells #[.slice none 0 0] 110)).alloc (.cells #[.string s] 9)).alloc (.cells #[.string ⟨#[10]⟩] 9)).alloc (.cells #[.int .i64 0] 3) = w4 := ⟨_, rfl⟩
  rw [hw4]
  have bO : Boxed w4 w.heap.size 110 (.slice none 0 0) := by rw [← hw4]; exact (((Boxed.new w 110 (.slice none 0 0)).alloc _).alloc _).alloc _
  have bS : Boxed w4 (w.heap.size + 1) 9 (.string s) := by
    rw [← hw4]
    have := Boxed.new (w.alloc (.cells #[.slice none 0 0] 110)) 9 (.string s)
    rw [World.size_alloc] at this
    exact (this.alloc _).alloc _
  have bP : Boxed w4 (w.heap.size + 2) 9 (.string ⟨#[10]⟩) := by
    rw [← hw4]
    have := Boxed.new ((w.alloc (.cells #[.slice none 0 0] 110)).alloc (.cells #[.string s] 9)) 9 (.string ⟨#[10]⟩)
    rw [World.size_alloc, World.size_alloc] at this
    exact this.alloc _
  have bQ : Boxed w4 (w.heap.size + 3) 3 (.int .i64 0) := by
    rw [← hw4]
    have := Boxed.new (((w.alloc (.cells #[.slice none 0 0] 110)).alloc (.cells #[.string s] 9)).alloc (.cells #[.string ⟨#[10]⟩] 9)) 3 (.int .i64 0)
    rw [World.size_alloc, World.size_alloc, World.size_alloc] at this
    exact this
  have hB0 : Below w.heap.size w w4 := by
    rw [← hw4]; exact ((((Below.refl _ w).alloc (Nat.le_refl _) _).alloc (by simp) _).alloc (by simp; omega) _).alloc (by simp; omega) _
  have hsz4 : w4.heap.size = w.heap.size + 4 := by rw [← hw4]; simp
  clear hw4
  refine Ten.wpIn_range_boxS rfl h1 (gf := 182) (lb := #[.pointer (some ⟨w.heap.size + 2, 0, none⟩), .pointer (some ⟨w.heap.size + 1, 0, none⟩), .pointer (some ⟨w.heap.size + 3, 0, none⟩)]) rfl trivial (enters_of Tryz.func182 (by kernel_rfl) rfl)
    (bx := w.heap.size + 1) (by omega) (Ten.split_seqS (n - 1) (by omega) (w.heap.size + 1) (w.heap.size + 2) (w.heap.size + 3) (by omega) (by omega) s hs w4 bS bP bQ)
    (fun {A B C} h k j hj => (k j hj).trans (h j hj)) (fun W l o o' hl _ j hj => World.putObj_heap_other (by omega)) (fun _ => rfl)
    (fun (pre : List ByteArray) W => (∃ v, Boxed W w.heap.size 110 v ∧ W.ownsRow (w.heap.size + 4) 153 4 v (pre.filterMap lineR).length (rulesL (pre.filterMap lineR)) ∧ True) ∧ Below w.heap.size w W ∧ w.heap.size + 4 ≤ W.heap.size)
    (fun _ _ _ => False)
    (OwnFrom.and (Own.from (holdsRow_own (w.heap.size + 4) w.heap.size 110 153 4 (fun pre : List ByteArray => (pre.filterMap lineR).length) (fun pre : List ByteArray => rulesL (pre.filterMap lineR)) (fun _ _ => True)) _) (OwnFrom.and (ownFrom_below (Nat.le_refl _) (by omega)) (fun _ _ _ _ hs hg _ => Nat.le_trans hs hg.size)))
    (fun _ _ _ _ _ h _ _ => h)
    (fun p A v hs => by
      obtain ⟨⟨u, hu, hr, _⟩, hB, hz⟩ := hs
      exact ⟨⟨u, hu.kept (grownBy_setCell' A (w.heap.size + 1) v) (fun e => by have := Option.some.inj e; omega), hr.kept (grownBy_setCell' A (w.heap.size + 1) v) (.inr (row_notG hr (by omega)).symm), trivial⟩, hB.setCell (p := ⟨w.heap.size + 1, 0, none⟩) (by show w.heap.size ≤ w.heap.size + 1; omega) _, Nat.le_trans hz (grownBy_setCell' A (w.heap.size + 1) v).size⟩)
    ⟨⟨_, bO, World.ownsRow_nil _ _ _ _, trivial⟩, hB0, by omega⟩
    (fun x => { tmps := #[.string s, undef, .slice none 0 0, .pointer (some ⟨w.heap.size, 0, none⟩), .string x, undef, undef, .string s, .func (.func 182) #[] #[.pointer (some ⟨w.heap.size + 2, 0, none⟩), .pointer (some ⟨w.heap.size + 1, 0, none⟩), .pointer (some ⟨w.heap.size + 3, 0, none⟩)], .string x, undef, undef, undef, undef, undef, undef, undef, undef, undef, undef, undef], defers := [] }) ?assign ?body ?done ?stop
  case assign =>
    intro l x W K hK
    gi_wp2
    exact hK
  case stop =>
    intro D c pre W _ _ h
    exact h.elim
  case body =>
    rintro l pre x W ⟨⟨v, hv, hrow, _⟩, hB, hWs⟩ ⟨rest, hcut⟩
    have hxs := cut_size hcut
    have hpl : (pre.filterMap lineR).length ≤ pre.length := List.length_filterMap_le _ _
    have hpb : pre.length ≤ s.size := by rw [hcut] at hcl; simp at hcl; omega
    have hrl := readLine_any x W (by omega) (hM.below h2 hB) (by omega)
    have h11 : 1 ≤ n - 1 - 1 := by omega
    have HRL := hide hrl
    cases ho : lineR x with
    | none =>
      rw [ho] at HRL
      have HFM := hide (fm_none (pre := pre) ho)
      have HALL := hide (⟨hv, hrow, hB, hWs⟩ : _ ∧ _ ∧ _ ∧ _)
      clear hv hrow hB hWs hcut hxs hpl hpb hrl ho
      gi_wp2_with (refine ⟨trivial, ?_⟩; gi_at_call 124; refine (CallsIn.inRound l (callsIn_wide.2 HRL.out)).mono ?_; rintro e W2 ⟨rfl, hb2⟩; simp only [lineV, ruleV, noRule])
      obtain ⟨hv, hrow, hB, hWs⟩ := HALL.out
      have hb3 : Below W.heap.size W (W2.alloc (.cells #[.bool false, .bool false, .bool false, .string ⟨#[]⟩] 153)) := hb2.alloc hb2.size _
      exact ⟨keepsFrom_below hb3, fun j hj => hb3.block j (by omega), ⟨v, (hb3.block _ hv.lt).trans hv, by rw [HFM.out]; exact row_keep hrow (fun k c hk _ => (hb3.block k (Array.getElem?_eq_some_iff.1 hk).1).trans hk), trivial⟩, hB.trans (hb3.mono hB.size), Nat.le_trans hWs hb3.size⟩
    | some r =>
      rw [ho] at HRL
      have HFM := hide (fm_some (pre := pre) ho)
      have HALL := hide (⟨hv, hrow, hB, hWs⟩ : _ ∧ _ ∧ _ ∧ _)
      clear hcut hxs hrl ho hv hrow hB hWs
      gi_wp2_with first
        | (refine ⟨trivial, ?_⟩; gi_at_call 124; refine (CallsIn.inRound l (callsIn_wide.2 HRL.out)).mono ?_; rintro e W2 ⟨rfl, hb2⟩; simp only [lineV, ruleV]; have hb3 : Below W.heap.size W (W2.alloc (.cells #[.bool r.nt, .bool r.dr, .bool r.fx, .string r.pt] 153)) := hb2.alloc hb2.size _; have hv3 : Boxed (W2.alloc (.cells #[.bool r.nt, .bool r.dr, .bool r.fx, .string r.pt] 153)) w.heap.size 110 v := (hb3.block _ HALL.out.1.lt).trans HALL.out.1; have hrow3 : (W2.alloc (.cells #[.bool r.nt, .bool r.dr, .bool r.fx, .string r.pt] 153)).ownsRow (w.heap.size + 4) 153 4 v (pre.filterMap lineR).length (rulesL (pre.filterMap lineR)) := row_keep HALL.out.2.1 (fun k c hk _ => (hb3.block k (Array.getElem?_eq_some_iff.1 hk).1).trans hk); have hc3 := hv3.cell; have hs3 : w.heap.size + 4 ≤ W2.heap.size := Nat.le_trans HALL.out.2.2.2 hb2.size; have HB3 := hide hb3; have HV3 := hide hv3; have HR3 := hide hrow3; clear hb3 hv3 hrow3)
        | (gi_at_builtin; refine wpListIn_append_own _ rfl _ _ 110 rfl (w.heap.size + 4) 153 i0 _ 4 24 Tryz.underlying22r hi hz0 hz1 hz2 rfl (by decide) _ _ _ rfl (HR3.out.alloc _) ⟨W2.heap.size + 1, 0, none⟩ 1 1 (ruleL r) rfl rfl (World.news_of_block (cs := #[.bool r.nt, .bool r.dr, .bool r.fx, .string r.pt]) (by have := World.alloc_heap_new (W2.alloc (.cells #[.bool r.nt, .bool r.dr, .bool r.fx, .string r.pt] 153)) (.cells #[.bool r.nt, .bool r.dr, .bool r.fx, .string r.pt] 153); rw [World.size_alloc] at this; exact this)) (by simp [ruleL, Value.oneCell']) (by unfold maxLen; omega) (by omega) (by simp; omega) ?_; intro v' w1 hown' hgrow _; obtain ⟨g', cap', rfl⟩ := ownsRow_succ hown'; obtain ⟨hv1, hv2, hr2, hk2, hb5, hq2⟩ := push_rule (by simp; omega) HV3.out HR3.out hown' hgrow; have hc1 := hv1.cell; have hf1 := hv1.frozen)
      obtain ⟨hv, hrow, hB, hWs⟩ := HALL.out
      have hz5 := hb5.size
      have hb3 := HB3.out
      refine ⟨(keepsFrom_below hb3).trans (hk2.from _), fun j hj => (hq2 j hj).trans (hb3.block j (by omega)), ⟨_, hv2, ?_, trivial⟩, (hB.trans (hb3.mono hB.size)).trans hb5, by have := hb3.size; omega⟩
      rw [HFM.out, List.length_append, rulesL_snoc]
      exact hr2
  case done =>
    rintro D ys W hD rfl ⟨⟨v, hv, hrow, _⟩, hB, _⟩ hK
    have hc := hv.cell
    gi_wp2
    refine ⟨by simp, .inl ⟨_, _, rfl, run_takeDeferred hK, ?_⟩⟩
    refine ⟨_, results_tmp rfl _ _ _, v, rfl, ?_, hB.trans (belowK_b (w := w) (Nat.le_refl _) W D _ _ (by omega) hK rfl rfl)⟩
    exact owns_baseG (by omega) (ownsRow_putObj hrow _ hK rfl)
end Go.Proofs.YtfemboojdablhaaGreatDoor
namespace Go.Proofs.YtfemboojdablhaaGreatDoor
open Go.RowKit Go.Maps
theorem rulesL_get : ∀ (rs : List RuleD) (k j : Nat) (r : RuleD), rs[k]? = some r → j < 4 → (rulesL rs)[k * 4 + j]? = (ruleL r)[j]? := by
  intro rs
  induction rs with
  | nil => intro k j r h; simp at h
  | cons x t ih =>
    intro k j r h hj
    have e : rulesL (x :: t) = ruleL x ++ rulesL t := by simp [rulesL]
    have hl : (ruleL x).length = 4 := rfl
    rw [e]
    match k, h with
    | 0, h =>
      cases h
      rw [List.getElem?_append_left (by rw [hl]; omega)]
      congr 1
      omega
    | k + 1, h =>
      rw [List.getElem?_append_right (by rw [hl]; omega), hl, show (k + 1) * 4 + j - 4 = k * 4 + j by omega]
      exact ih k j r h hj
def RRow (t : TypeId) (B : Nat) (W : World) (v : Value) (rs : List RuleD) : Prop := (v = .slice none 0 0 ∧ rs = []) ∨ ∃ g cap, v = .slice (some ⟨g, 0, none⟩) rs.length cap ∧ g < B ∧ rs.length ≤ cap ∧ (∃ cur, W.heap[g]? = some (.cells cur t (0, 0))) ∧ ∀ (k : Nat) (r : RuleD), rs[k]? = some r → W.cell? ⟨g, k * 4, none⟩ = some (.bool r.nt) ∧ W.cell? ⟨g, k * 4 + 1, none⟩ = some (.bool r.dr) ∧ W.cell? ⟨g, k * 4 + 2, none⟩ = some (.bool r.fx) ∧ W.cell? ⟨g, k * 4 + 3, none⟩ = some (.string r.pt)
theorem RRow.of_owns {t B : Nat} {W : World} {v : Value} {rs : List RuleD} (h : W.ownsRow B t 4 v rs.length (rulesL rs)) : RRow t W.heap.size W v rs := by
  rcases h.2 with ⟨rfl, h2⟩ | ⟨g, cap, cur, rfl, hb, hg, hn, _, hs, ht⟩
  · exact .inl ⟨rfl, List.eq_nil_of_length_eq_zero h2⟩
  · refine .inr ⟨g, cap, rfl, (Array.getElem?_eq_some_iff.1 hg).1, hn, ⟨cur, hg⟩, fun k r hk => ?_⟩
    have hkl := (List.getElem?_eq_some_iff.1 hk).1
    have key : ∀ (j : Nat) (u : Value), j < 4 → (ruleL r)[j]? = some u → W.cell? ⟨g, k * 4 + j, none⟩ = some u := by
      intro j u hj hu
      have e1 := rulesL_get rs k j r hk hj
      rw [← ht, List.getElem?_take_of_lt (by omega), hu] at e1
      simp only [World.cell?, hg]
      simpa using e1
    exact ⟨key 0 _ (by decide) rfl, key 1 _ (by decide) rfl, key 2 _ (by decide) rfl, key 3 _ (by decide) rfl⟩
theorem readR_any (s : ByteArray) (hs : s.size ≤ 1073741824) (w : World) (hM : MaxW w) (h2 : 9 < w.heap.size) :
    Calls Tryz.prog 84 #[.string s] w fun e W' => ∃ v, e = .returned v ∧ W'.ownsRow w.heap.size 153 4 v (rulesOf s).length (rulesL (rulesOf s)) ∧ Below w.heap.size w W' :=
  (callsIn_wide (n := 8)).1 (read_in 8 (by omega) s hs w hM h2)
theorem rules_len (s : ByteArray) : (rulesOf s).length ≤ s.size + 1 := by
  unfold rulesOf
  exact Nat.le_trans (List.length_filterMap_le _ _) (cutS_length 10 s)
end Go.Proofs.YtfemboojdablhaaGreatDoor
namespace Go.Proofs.YtfemboojdablhaaGreatDoor
theorem split_cat (c : UInt8) (p q : List UInt8) : splitL c (p ++ c :: q) = splitL c p ++ splitL c q := by
  induction p with
  | nil => rw [List.nil_append, split_same]; rfl
  | cons x r ih =>
    by_cases h : x = c
    · subst h
      rw [List.cons_append, split_same, split_same, ih]; rfl
    · obtain ⟨p1, ps, e1, e2⟩ := split_other c x r h
      obtain ⟨p2, ps2, e3, e4⟩ := split_other c x (r ++ c :: q) h
      rw [List.cons_append, e4, e2]
      rw [ih, e1, List.cons_append] at e3
      simp only [List.cons.injEq] at e3
      rw [← e3.1, ← e3.2]; rfl
def trimR (l : List UInt8) : List UInt8 := (l.reverse.dropWhile (fun c => c == 47)).reverse
theorem trimR_snoc (l : List UInt8) : trimR (l ++ [47]) = trimR l := by simp [trimR]
theorem trimR_keep (l : List UInt8) (c : UInt8) (h : ¬ c = 47) : trimR (l ++ [c]) = l ++ [c] := by
  simp [trimR, h]
def neL (l : List UInt8) : List (List UInt8) := (splitL 47 l).filter (fun p => !p.isEmpty)
theorem neL_snoc (l : List UInt8) : neL (l ++ [47]) = neL l := by
  unfold neL
  rw [split_cat]
  simp [splitL]
theorem snoc_cases {α : Type} (l : List α) : l = [] ∨ ∃ m x, l = m ++ [x] := by
  rcases List.eq_nil_or_concat l with h | ⟨m, x, h⟩
  · exact .inl h
  · exact .inr ⟨m, x, by simpa using h⟩
theorem neL_trim (n : Nat) : ∀ l : List UInt8, l.length = n → neL l = neL (trimR l) := by
  induction n with
  | zero => intro l h; rw [List.eq_nil_of_length_eq_zero h]; rfl
  | succ n ih =>
    intro l h
    rcases snoc_cases l with rfl | ⟨m, x, rfl⟩
    · simp at h
    · by_cases hx : x = 47
      · subst hx
        rw [neL_snoc, trimR_snoc]
        exact ih m (by simp at h; omega)
      · rw [trimR_keep m x hx]
theorem trimR_last (n : Nat) : ∀ l : List UInt8, l.length = n → trimR l = [] ∨ ∃ m x, trimR l = m ++ [x] ∧ ¬ x = 47 := by
  induction n with
  | zero => intro l h; rw [List.eq_nil_of_length_eq_zero h]; exact .inl rfl
  | succ n ih =>
    intro l h
    rcases snoc_cases l with rfl | ⟨m, x, rfl⟩
    · simp at h
    · by_cases hx : x = 47
      · subst hx
        rw [trimR_snoc]
        exact ih m (by simp at h; omega)
      · rw [trimR_keep m x hx]; exact .inr ⟨m, x, rfl, hx⟩
def LastAt (l : List UInt8) (i : Int) : Prop := (i = -1 ∧ (47 : UInt8) ∉ l) ∨ ∃ p q, l = p ++ 47 :: q ∧ (47 : UInt8) ∉ q ∧ i = (p.length : Int)
theorem last_bd {l : List UInt8} {i : Int} (h : LastAt l i) : -1 ≤ i ∧ i < (l.length : Int) := by
  rcases h with ⟨rfl, _⟩ | ⟨p, q, rfl, _, rfl⟩
  · omega
  · simp; omega
theorem last_piece {l : List UInt8} {i : Int} (h : LastAt l i) (hl : ∃ m x, l = m ++ [x] ∧ ¬ x = 47) : (neL l).getLast? = some (l.drop (i + 1).toNat) := by
  obtain ⟨m, x, hm, hx⟩ := hl
  rcases h with ⟨rfl, hn⟩ | ⟨p, q, hp, hq, rfl⟩
  · have e : neL l = [l] := by
      unfold neL
      rw [split_end 47 l hn, hm]
      simp
    rw [e]; simp
  · have hq2 : ¬ q = [] := by
      rintro rfl
      rw [hm] at hp
      have := (List.append_inj' hp rfl).2
      simp at this
      exact hx this
    have e : neL l = neL p ++ [q] := by
      unfold neL
      rw [hp, split_cat, split_end 47 q hq, List.filter_append]
      simp [hq2]
    rw [e, hp]
    simp only [List.getLast?_append, List.getLast?_singleton, Option.some_or]
    rw [show ((p.length : Int) + 1).toNat = p.length + 1 from by omega, List.drop_append, List.drop_of_length_le (by omega), show p.length + 1 - p.length = 1 from by omega]
    rfl
def baseS (s : ByteArray) : ByteArray := match (partsS s).getLast? with
  | some x => x
  | none => if s.toList.isEmpty then ⟨#[]⟩ else ⟨#[47]⟩
def trimS (s : ByteArray) : ByteArray := bs (trimR s.data.toList)
theorem toList_bs (l : List UInt8) : (bs l).toList.isEmpty = l.isEmpty := by rw [ByteArray.toList_eq]; rfl
theorem partsS_neL (s : ByteArray) : partsS s = (neL s.data.toList).map bs := by
  unfold partsS cutS neL
  rw [List.filter_map]
  congr 1
  apply List.filter_congr
  intro p _
  simp [keep, toList_bs]
theorem parts_trim (s : ByteArray) : partsS s = (neL (trimR s.data.toList)).map bs := by
  rw [partsS_neL, neL_trim _ s.data.toList rfl]
theorem base_slash {s : ByteArray} (h : (trimS s).toList.isEmpty = true) : baseS s = if s.toList.isEmpty then ⟨#[]⟩ else ⟨#[47]⟩ := by
  unfold trimS at h
  rw [toList_bs] at h
  have e : partsS s = [] := by rw [parts_trim, List.isEmpty_iff.1 h]; rfl
  unfold baseS
  rw [e]; rfl
theorem base_last {s : ByteArray} {i : Int} (h : (trimS s).toList.isEmpty = false) (hi : LastAt (trimS s).data.toList i) : baseS s = (trimS s).extract (i + 1).toNat (trimS s).size := by
  have hd : (trimS s).data.toList = trimR s.data.toList := rfl
  have hl : ∃ m x, (trimS s).data.toList = m ++ [x] ∧ ¬ x = 47 := by
    rw [hd]
    rcases trimR_last _ s.data.toList rfl with e | e
    · exfalso
      unfold trimS at h
      rw [toList_bs, e] at h
      cases h
    · exact e
  have e := last_piece hi hl
  unfold baseS
  rw [parts_trim, ← hd, List.getLast?_map, e, extract_bs]
  simp only [Option.map_some]
  congr 1
  rw [List.take_of_length_le (by simp)]
end Go.Proofs.YtfemboojdablhaaGreatDoor
namespace Go.Proofs.YtfemboojdablhaaGreatDoor
open Go.RowKit
theorem ret_str {a b : ByteArray} (h : a = b) : Ending.returned (.string a) = .returned (.string b) := by rw [h]
def strLen : Value → Nat
  | .string r => r.size
  | _ => 0
theorem trim_step {r : ByteArray} (h : 1 ≤ r.size) (hc : (r[r.size - 1].toNat : Int) = 47) : trimR (r.extract 0 (r.size - 1)).data.toList = trimR r.data.toList := by
  have e : r.data.toList = (r.extract 0 (r.size - 1)).data.toList ++ [47] := by
    rw [extract_bs, data_bs, List.drop_zero, Nat.sub_zero]
    have h2 := List.take_append_drop (r.size - 1) r.data.toList
    rw [drop_get r (r.size - 1) (by omega), List.drop_of_length_le (by simp; omega)] at h2
    have h3 : r[r.size - 1] = 47 := UInt8.toNat_inj.1 (by have : (47 : UInt8).toNat = 47 := rfl; omega)
    rw [h3] at h2
    exact h2.symm
  rw [e, trimR_snoc]
theorem trim_stop {r : ByteArray} (h : r.size = 0 ∨ ∃ h : 1 ≤ r.size, ¬ (r[r.size - 1].toNat : Int) = 47) : trimR r.data.toList = r.data.toList := by
  rcases h with h | ⟨h, hc⟩
  · have : r.data.toList = [] := List.eq_nil_of_length_eq_zero (by simp [h])
    rw [this]; rfl
  · have h2 := List.take_append_drop (r.size - 1) r.data.toList
    rw [drop_get r (r.size - 1) (by omega), List.drop_of_length_le (by simp; omega)] at h2
    rw [← h2]
    exact trimR_keep _ _ (fun e => hc (by rw [e]; rfl))
set_option maxHeartbeats 1000000 in
theorem trimByte_any (s : ByteArray) (w : World) (hs : s.size ≤ 1073741824) :
    Calls Tryz.prog 159 #[.string s, .int .u8 47] w fun e w' => e = .returned (.string (trimS s)) ∧ w' = w := by
  go_enter Tryz.func159, Tryz.ntmps159
  go_wp2
  go_loop [0] (fun v => ∃ r : ByteArray, v = .string r ∧ r.size ≤ s.size ∧ trimR r.data.toList = trimR s.data.toList) (fun v => strLen v)
  case atStart => exact ⟨s, rfl, Nat.le_refl _, rfl⟩
  case round =>
    obtain ⟨r, rfl, hrs, htr⟩ := hrel
    have HT : Hid (trimR r.data.toList = trimR s.data.toList) := htr
    clear htr
    by_cases h0 : r.size = 0
    · have hz : ¬ (0 : Int) < (r.size : Int) := by omega
      have HR : Hid (r = trimS s) := by
        unfold Hid trimS; rw [← HT.out, trim_stop (.inl h0), bs_data]
      go_wp2
      go_ret
      exact ⟨ret_str HR.out, rfl⟩
    · have hz : (0 : Int) < (r.size : Int) := by omega
      have h1 : 1 ≤ r.size := by omega
      by_cases hc : (r[r.size - 1].toNat : Int) = 47
      · have hb : ((r[r.size - 1].toNat : Int) == 47) = true := by rw [beq_iff_eq]; exact hc
        have HN : Hid (trimR (r.extract 0 (r.size - 1)).data.toList = trimR s.data.toList) := by unfold Hid; rw [trim_step h1 hc, HT.out]
        clear hc
        go_wp2
        go_round
        case rel => exact ⟨_, rfl, by simp; omega, HN.out⟩
        case measure => simp [strLen]; omega
      · have hb : ((r[r.size - 1].toNat : Int) == 47) = false := by rw [beq_eq_false_iff_ne]; exact hc
        have HR : Hid (r = trimS s) := by
          unfold Hid trimS; rw [← HT.out, trim_stop (.inr ⟨h1, hc⟩), bs_data]
        clear hc
        go_wp2
        go_ret
        exact ⟨ret_str HR.out, rfl⟩
theorem emp_no {s : ByteArray} (h : 1 ≤ s.size) : s.toList.isEmpty = false := by
  cases hE : s.toList.isEmpty
  · rfl
  · exfalso
    rw [ByteArray.toList_eq] at hE
    have h2 := size_list s
    rw [List.isEmpty_iff.1 hE] at h2
    simp at h2; omega
theorem emp_yes {s : ByteArray} (h : s.size = 0) : s.toList.isEmpty = true := by
  have h2 := size_list s
  rw [h] at h2
  rw [ByteArray.toList_eq, List.isEmpty_iff]
  exact List.eq_nil_of_length_eq_zero h2
theorem emp_size {s : ByteArray} (h : s.toList.isEmpty = true) : s.size = 0 := by
  by_cases h0 : s.size = 0
  · exact h0
  · rw [emp_no (by omega)] at h; cases h
theorem emp_size_no {s : ByteArray} (h : s.toList.isEmpty = false) : 1 ≤ s.size := by
  by_cases h0 : s.size = 0
  · rw [emp_yes h0] at h; cases h
  · omega
theorem trim_empty {s : ByteArray} (h : s.size = 0) : trimS s = s := by
  unfold trimS; rw [trim_stop (.inl h), bs_data]
theorem trim_size (n : Nat) : ∀ l : List UInt8, l.length = n → (trimR l).length ≤ l.length := by
  induction n with
  | zero => intro l h; rw [List.eq_nil_of_length_eq_zero h]; simp [trimR]
  | succ n ih =>
    intro l h
    rcases snoc_cases l with rfl | ⟨m, x, rfl⟩
    · simp at h
    · by_cases hx : x = 47
      · subst hx
        rw [trimR_snoc]
        have := ih m (by simp at h; omega)
        simp; omega
      · rw [trimR_keep m x hx]; exact Nat.le_refl _
theorem trimS_size (s : ByteArray) : (trimS s).size ≤ s.size := by
  have := trim_size _ s.data.toList rfl
  rw [← size_list (trimS s), ← size_list s]; exact this
set_option maxRecDepth 100000 in
set_option maxHeartbeats 1000000 in
theorem trim_any (s : ByteArray) (w : World) (hs : s.size ≤ 1073741824) :
    Calls Tryz.prog 131 #[.string s, .string ⟨#[47]⟩] w fun e w' => e = .returned (.string (trimS s)) ∧ w' = w := by
  by_cases h0 : s.size = 0
  · have he := emp_yes h0
    have HT : Hid (s = trimS s) := (trim_empty h0).symm
    go_enter Tryz.func131, Tryz.ntmps131
    go_wp2
    go_ret
    exact ⟨ret_str HT.out, rfl⟩
  · have he := emp_no (show 1 ≤ s.size by omega)
    go_enter Tryz.func131, Tryz.ntmps131
    go_wp2_with (go_at_call 159; refine (trimByte_any _ _ hs).mono ?_; rintro e w' ⟨rfl, rfl⟩)
    go_ret
    exact ⟨rfl, rfl⟩
theorem last_none {r : ByteArray} (h : ∀ j (hj : j < r.size), ¬ (r[j].toNat : Int) = 47) : LastAt r.data.toList (-1) := by
  refine .inl ⟨rfl, fun hm => ?_⟩
  obtain ⟨j, hj, e⟩ := List.getElem_of_mem hm
  refine h j (by simpa using hj) ?_
  have : r[j]'(by simpa using hj) = 47 := e
  rw [this]; rfl
theorem last_found {r : ByteArray} {k : Nat} (hk : k < r.size) (hc : (r[k].toNat : Int) = 47) (h : ∀ j (hj : j < r.size), k < j → ¬ (r[j].toNat : Int) = 47) : LastAt r.data.toList (k : Int) := by
  refine .inr ⟨r.data.toList.take k, r.data.toList.drop (k + 1), ?_, ?_, ?_⟩
  · have h3 : r[k] = 47 := UInt8.toNat_inj.1 (by have : (47 : UInt8).toNat = 47 := rfl; omega)
    rw [← h3, ← drop_get r k hk, List.take_append_drop]
  · intro hm
    obtain ⟨j, hj, e⟩ := List.getElem_of_mem hm
    rw [List.getElem_drop] at e
    have hj2 : k + 1 + j < r.size := by simp at hj; omega
    refine h (k + 1 + j) hj2 (by omega) ?_
    have : r[k + 1 + j] = 47 := e
    rw [this]; rfl
  · simp; omega
set_option maxHeartbeats 1000000 in
theorem lastStr_any (r : ByteArray) (w : World) (hs : r.size ≤ 1073741824) :
    Calls Tryz.prog 163 #[.string r, .int .u8 47] w fun e w' => (∃ i, e = .returned (.int .i64 i) ∧ LastAt r.data.toList i) ∧ w' = w := by
  go_enter Tryz.func163, Tryz.ntmps163
  go_wp2
  go_loop [5] (fun v => ∃ k : Nat, k ≤ r.size ∧ v = .int .i64 ((k : Int) - 1) ∧ ∀ j (hj : j < r.size), k ≤ j → ¬ (r[j].toNat : Int) = 47) (fun v => (intOf v + 1).toNat)
  case atStart => exact ⟨r.size, Nat.le_refl _, rfl, fun j hj h => by omega⟩
  case round =>
    obtain ⟨k, hk, rfl, hno⟩ := hrel
    have HN : Hid (∀ j (hj : j < r.size), k ≤ j → ¬ (r[j].toNat : Int) = 47) := hno
    clear hno
    by_cases h0 : k = 0
    · subst h0
      go_wp2
      go_ret
      exact ⟨⟨_, rfl, last_none (fun j hj => HN.out j hj (Nat.zero_le _))⟩, rfl⟩
    · obtain ⟨m, rfl⟩ : ∃ m, k = m + 1 := ⟨k - 1, by omega⟩
      have hm : m < r.size := by omega
      by_cases hc : (r[m].toNat : Int) = 47
      · have hb : ((r[m].toNat : Int) == 47) = true := by rw [beq_iff_eq]; exact hc
        have HF : Hid (LastAt r.data.toList (m : Int)) := last_found hm hc (fun j hj h => HN.out j hj (by omega))
        clear hc
        go_wp2
        go_ret
        exact ⟨⟨_, rfl, HF.out⟩, rfl⟩
      · have hb : ((r[m].toNat : Int) == 47) = false := by rw [beq_eq_false_iff_ne]; exact hc
        have HC : Hid (¬ (r[m].toNat : Int) = 47) := hc
        clear hc
        go_wp2
        go_round
        case rel =>
          refine ⟨m, by omega, rfl, fun j hj h => ?_⟩
          by_cases e : j = m
          · subst e; exact HC.out
          · exact HN.out j hj (by omega)
        case measure => simp [intOf]
set_option maxHeartbeats 1000000 in
theorem lastIdx_any (r : ByteArray) (w : World) (hs : r.size ≤ 1073741824) :
    Calls Tryz.prog 132 #[.string r, .int .u8 47] w fun e w' => (∃ i, e = .returned (.int .i64 i) ∧ LastAt r.data.toList i) ∧ w' = w := by
  go_enter Tryz.func132, Tryz.ntmps132
  go_wp2_with fail
  refine (lastStr_any r _ hs).mono ?_
  rintro e w' ⟨⟨i, rfl, hi⟩, rfl⟩
  go_wp2
  go_ret
  exact ⟨⟨_, rfl, hi⟩, rfl⟩
set_option maxHeartbeats 1000000 in
theorem base_any (s : ByteArray) (w : World) (hs : s.size ≤ 1073741824) :
    Calls Tryz.prog 99 #[.string s] w fun e w' => e = .returned (.string (baseS s)) ∧ w' = w := by
  have hts := trimS_size s
  cases ht : (trimS s).toList.isEmpty
  · go_enter Tryz.func99, Tryz.ntmps99
    go_wp2_with fail
    refine (trim_any s _ hs).mono ?_
    rintro e w' ⟨rfl, rfl⟩
    go_wp2_with fail
    refine (lastIdx_any (trimS s) _ (by omega)).mono ?_
    rintro e w' ⟨⟨i, rfl, hi⟩, rfl⟩
    have hbd := last_bd hi
    rw [size_list] at hbd
    have HE : Hid (baseS s = (trimS s).extract (i + 1).toNat (trimS s).size) := base_last ht hi
    clear hi
    go_wp2
    go_ret
    exact ⟨ret_str HE.out.symm, rfl⟩
  · cases he : s.toList.isEmpty
    · have HE : Hid (baseS s = ⟨#[47]⟩) := by unfold Hid; rw [base_slash ht, he]; rfl
      go_enter Tryz.func99, Tryz.ntmps99
      go_wp2_with fail
      refine (trim_any s _ hs).mono ?_
      rintro e w' ⟨rfl, rfl⟩
      go_wp2
      go_ret
      exact ⟨ret_str HE.out.symm, rfl⟩
    · have HE : Hid (baseS s = ⟨#[]⟩) := by unfold Hid; rw [base_slash ht, he]; rfl
      have hz := emp_size ht
      go_enter Tryz.func99, Tryz.ntmps99
      go_wp2_with fail
      refine (trim_any s _ hs).mono ?_
      rintro e w' ⟨rfl, rfl⟩
      go_wp2_with fail
      refine (lastIdx_any (trimS s) _ (by omega)).mono ?_
      rintro e w' ⟨⟨i, rfl, hi⟩, rfl⟩
      have hbd := last_bd hi
      rw [size_list] at hbd
      obtain rfl : i = -1 := by omega
      clear hi
      go_wp2
      go_ret
      exact ⟨ret_str HE.out.symm, rfl⟩
end Go.Proofs.YtfemboojdablhaaGreatDoor
