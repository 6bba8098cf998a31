/- The law EreAgrees. -/
import Derived.Test.YtdlljlmgoiobpaaGreatDoorEsB
namespace Go.Proofs.YtdlljlmgoiobpaaGreatDoor
open Go.RowKit Go.Maps
set_option maxRecDepth 100000 in
theorem num_any (n : Int) (w : World) : Calls Tryz.prog 8 #[.int .i64 n] w fun e w' => e = .returned (.int .i64 n) ∧ w' = w := by
  go_enter Tryz.func8, Tryz.ntmps8
  go_wp2
  go_ret
  exact ⟨rfl, rfl⟩
/-- Parse's answer, read as one. -/
def ParsQ (o : Res PtD) (w1 : World) (op : Int) (st : ByteArray) (ka : Option Addr) (m c : Nat) (er : Int) : Prop := er = (ereErr o : Int) ∧ st.size ≤ 1000000000 ∧ ∃ (b : Nat) (ks : List ExprD), KidE b w1 ka m c ks ∧ wt (.mk op st.data.toList ks) ≤ 10000000 ∧ ∀ p j, o = .ok p j → p.e = .mk op st.data.toList ks
theorem parse_q (s : ByteArray) (w : World) (hG : GE w) (hs : s.size ≤ 1000000000000000) : Calls Tryz.prog 5 #[.string s] w fun e w' => Below w.heap.size w w' ∧ ∃ (op : Int) (st : ByteArray) (ka : Option Addr) (m c : Nat) (er pl : Int), e = .returned (.tuple #[.agg #[.int .i64 op, .string st, .slice ka m c], .int .i64 er, .int .i64 pl]) ∧ ParsQ (readD s.data.toList) w' op st ka m c er := by
  refine (eparse_any s w hG.mx hG.big hs).mono ?_
  rintro e w' ⟨hb, hp⟩
  refine ⟨hb, ?_⟩
  have hwt := fun p j h => read_wt (l := s.data.toList) (p := p) (j := j) h
  obtain ⟨o, ho⟩ : ∃ o, readD s.data.toList = o := ⟨_, rfl⟩
  rw [ho] at hp ⊢
  simp only [ho] at hwt
  cases o with
  | bad r =>
    obtain ⟨pl, rfl⟩ := hp
    exact ⟨_, _, _, _, _, _, _, rfl, rfl, by decide, 0, [], .inl ⟨rfl, rfl, rfl, rfl⟩, by rw [wt, wtL]; decide, fun p j h => by cases h⟩
  | ok p j =>
    obtain ⟨b, op, st, ka, m, c, ks, rfl, _, hpe, hst, hk⟩ := hp
    have hw := hwt p j rfl
    rw [hpe] at hw
    exact ⟨_, _, _, _, _, _, _, rfl, rfl, hst, b, ks, hk, hw, fun p' j' h => by cases h; exact hpe⟩
set_option maxRecDepth 100000 in
set_option maxHeartbeats 4000000 in
theorem agrees_any (s tx : ByteArray) (w : World) (hG : GE w) (hs : s.size ≤ 1000000000000000) (ht : tx.size ≤ 1000000000000000) :
    Calls Tryz.prog 3 #[.string s, .string tx] w fun e w' => e = .returned (.bool true) ∧ Below w.heap.size w w' := by
  have hpa := parse_q s w hG hs
  have HG := hide hG
  obtain ⟨o, ho⟩ : ∃ o, readD s.data.toList = o := ⟨_, rfl⟩
  rw [ho] at hpa
  have HOO := hide ho
  clear hG ho
  go_enter Tryz.func3, Tryz.ntmps3
  go_wp2_with fail
  refine hpa.mono ?_
  rintro e w1 ⟨hb1, op, st, ka, m, c, er, pl, rfl, her, hst, b, ks, hk, hwt, hpe⟩
  obtain ⟨W2, hW2⟩ : ∃ W2, w1.alloc (.cells #[.int .i64 op, .string st, .slice ka m c] 24) = W2 := ⟨_, rfl⟩
  have f2 : ∀ x, FrE x w1 W2 := by intro x; rw [← hW2]; exact FrE.alloc _ _ _
  have b2 : Below w1.heap.size w1 W2 := (f2 w1.heap.size).below (Nat.le_refl _)
  have B2 : Below w.heap.size w W2 := hb1.trans (below_weaken b2 hb1.size)
  have k2 := hk.keep (f2 b)
  have x2 : W2.heap[w1.heap.size]? = some (.cells #[.int .i64 op, .string st, .slice ka m c] 24 (0, 0)) := by rw [← hW2]; exact World.alloc_heap_new w1 _
  have hem := ematch_any s tx W2 (HG.out.below B2) hs ht
  rw [HOO.out] at hem
  subst her
  have H2 := hide (⟨B2, k2, x2, hst, hwt, hpe⟩ : _ ∧ _ ∧ _ ∧ _ ∧ _ ∧ _)
  clear hb1 f2 b2 B2 k2 x2 hk hst hwt hpe hpa
  go_wp2_with fail
  refine hem.mono ?_
  rintro e w3 ⟨⟨r, rfl, hr⟩, b3⟩
  have hre := readere_any s w3 hs
  rw [HOO.out] at hre
  have H3 := hide (⟨hr, b3⟩ : _ ∧ _)
  clear hr b3 hem
  go_wp2_with fail
  refine hre.mono ?_
  rintro e w4 ⟨b4, op4, st4, ka4, m4, c4, pl4, rfl⟩
  obtain ⟨W5, hW5⟩ : ∃ W5, w4.alloc (.cells #[.int .i64 op4, .string st4, .slice ka4 m4 c4] 32) = W5 := ⟨_, rfl⟩
  have b5 : Below w4.heap.size w4 W5 := by rw [← hW5]; exact (FrE.alloc w4.heap.size _ _).below (Nat.le_refl _)
  obtain ⟨B2, k2, x2, hst, hwt, hpe⟩ := H2.out
  obtain ⟨hr, b3⟩ := H3.out
  have b35 : Below W2.heap.size W2 W5 := (b3.trans (below_weaken b4 b3.size)).trans (below_weaken b5 (Nat.le_trans b3.size b4.size))
  have B5 : Below w.heap.size w W5 := B2.trans (below_weaken b35 B2.size)
  have k5 := k2.keep (fr_below b35 (Nat.le_refl _))
  have hl2 := (Array.getElem?_eq_some_iff.1 x2).1
  have x5 : W5.heap[w1.heap.size]? = some (.cells #[.int .i64 op, .string st, .slice ka m c] 24 (0, 0)) := (b35.block _ hl2).trans x2
  have G5 := HG.out.below B5
  have hma := match_any op st (.slice ka m c) ks tx W5 k5.at_ hst hwt ht G5.tab (by have := G5.big; omega)
  have c0 : W5.cell? ⟨w1.heap.size, 0, none⟩ = some (.int .i64 op) := by simp [World.cell?, x5]
  have c1 : W5.cell? ⟨w1.heap.size, 1, none⟩ = some (.string st) := by simp [World.cell?, x5]
  have c2 : W5.cell? ⟨w1.heap.size, 2, none⟩ = some (.slice ka m c) := by simp [World.cell?, x5]
  have hnz := noz_read s.data.toList
  rw [HOO.out] at hnz
  have H5 := hide (⟨B5, hr, hpe, hnz⟩ : _ ∧ _ ∧ _ ∧ _)
  have HNUM := hide (num_any (ereErr o : Int) W5)
  clear hre b4 b5 b35 B5 k5 hl2 x5 G5 B2 k2 x2 hst hwt hpe hr b3 H2 H3 hnz
  obtain ⟨E, hE⟩ : ∃ E : Int, (ereErr o : Int) = E := ⟨_, rfl⟩
  have HE := hide hE
  rw [hE] at HNUM ⊢
  clear hE
  go_wp2_with fail
  refine HNUM.out.mono ?_
  rintro e w6 ⟨rfl, hw⟩
  rw [hw]
  clear hw
  go_wp2_with fail
  refine HNUM.out.mono ?_
  rintro e w6 ⟨rfl, hw⟩
  rw [hw]
  clear hw
  go_wp2_with fail
  refine hma.mono ?_
  rintro e w7 ⟨a, rfl, ha, b7⟩
  obtain ⟨B5, hr, hpe, hnz⟩ := H5.out
  have B7 : Below w.heap.size w w7 := B5.trans (below_weaken b7 B5.size)
  have hfin : E ≠ 0 ∨ a = r := by
    have hE := HE.out
    unfold MatP at hr
    rw [HOO.out] at hr
    cases o with
    | bad q =>
      left
      rw [← hE]
      show (q : Int) ≠ 0
      intro h
      exact hnz (by rw [show q = 0 by omega])
    | ok p j =>
      right
      have h1 := hpe p j rfl
      simp only at hr
      rw [h1] at hr
      cases a <;> cases r <;> simp_all
  have H7 := hide (⟨B7, hfin⟩ : _ ∧ _)
  clear hr hpe hnz B5 b7 B7 hfin hma ha H5 HNUM c0 c1 c2 HE
  by_cases hE0 : E = 0
  · have hEb : (E != 0) = false := by rw [hE0]; rfl
    have har : a = r := by
      rcases H7.out.2 with h | h
      · exact absurd hE0 h
      · exact h
    subst har
    clear hE0
    go_wp2
    exact bodyPost_ret (v := .bool true) (by simp [results, Tryz.results3, go_sem]) rfl ⟨rfl, H7.out.1⟩
  · have hEb : (E != 0) = true := by rw [bne_iff_ne]; exact hE0
    go_wp2
    exact bodyPost_ret (v := .bool true) (by simp [results, Tryz.results3, go_sem]) rfl ⟨rfl, H7.out.1⟩
end Go.Proofs.YtdlljlmgoiobpaaGreatDoor
