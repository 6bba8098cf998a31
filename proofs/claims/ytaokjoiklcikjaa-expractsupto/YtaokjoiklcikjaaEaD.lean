/- The program's Acts: what is still to be asked stands in a list. -/
import Derived.Test.YtaokjoiklcikjaaEaC
import Derived.Deep.LoopGhost
namespace Go.Proofs.Ytaokjoiklcikjaa
open Go.RowKit Go.Maps

theorem cells_of_in {S : Nat → Prop} {W : World} {g o : Nat} {k : TestD} (h : ExprIn S W g o k) : ∃ (op tx : ByteArray) (nu sg : Int) (v : Value) (q : List TestD), k = .mk op tx nu sg q ∧ W.cell? ⟨g, o, none⟩ = some (.string op) ∧ W.cell? ⟨g, o + 1, none⟩ = some (.string tx) ∧ W.cell? ⟨g, o + 2, none⟩ = some (.int .i64 nu) ∧ W.cell? ⟨g, o + 3, none⟩ = some (.int .i64 sg) ∧ W.cell? ⟨g, o + 4, none⟩ = some v ∧ KidsIn S W v q ∧ v.oneCell' = true := by
  cases h with
  | nil g o op tx nu sg hg h0 h1 h2 h3 h4 => exact ⟨op, tx, nu, sg, _, [], rfl, h0, h1, h2, h3, h4, .inl ⟨rfl, rfl⟩, rfl⟩
  | row g o op tx nu sg gk ck ks hg h0 h1 h2 h3 h4 hp hc hk => exact ⟨op, tx, nu, sg, _, ks, rfl, h0, h1, h2, h3, h4, .inr ⟨gk, ck, rfl, hp, hc, hk⟩, rfl⟩
theorem ExprIn.blk {S : Nat → Prop} {W : World} {g o : Nat} {k : TestD} (h : ExprIn S W g o k) : S g := by cases h <;> assumption
/-- The Kids' cells, as a row. -/
theorem news_of {S : Nat → Prop} {W : World} {g : Nat} : ∀ (ks : List TestD) (o : Nat), (∀ (i : Nat) (k : TestD), ks[i]? = some k → ExprIn S W g (o + i * 5) k) → ∃ news : List Value, news.length = ks.length * 5 ∧ (∀ j u, news[j]? = some u → W.cell? ⟨g, o + j, none⟩ = some u) ∧ (∀ u ∈ news, u.oneCell' = true) ∧ KRow S W news ks := by
  intro ks
  induction ks with
  | nil => intro o _; exact ⟨[], rfl, fun j u h => by simp at h, fun u h => by simp at h, fun j k h => by simp at h⟩
  | cons x r ih =>
    intro o h
    obtain ⟨op, tx, nu, sg, v, q, rfl, c0, c1, c2, c3, c4, hk, hone⟩ := cells_of_in (h 0 x rfl)
    obtain ⟨news, hl, hc, h1, hr⟩ := ih (o + 5) (fun i k hi => by have := h (i + 1) k hi; rw [show o + (i + 1) * 5 = o + 5 + i * 5 by omega] at this; exact this)
    refine ⟨[.string op, .string tx, .int .i64 nu, .int .i64 sg, v] ++ news, by simp [hl]; omega, fun j u hj => ?_, fun u hu => ?_, KRow.append (krow_one hk) rfl hr⟩
    · match j, hj with
      | 0, hj => cases hj; exact c0
      | 1, hj => cases hj; exact c1
      | 2, hj => cases hj; exact c2
      | 3, hj => cases hj; exact c3
      | 4, hj => cases hj; exact c4
      | j + 5, hj =>
        have := hc j u hj
        rw [show o + 5 + j = o + (j + 5) by omega] at this
        exact this
    · rcases List.mem_append.1 hu with hu | hu
      · simp at hu
        rcases hu with rfl | rfl | rfl | rfl | rfl <;> first | rfl | exact hone
      · exact h1 u hu
theorem nodesL_append (a b : List TestD) : nodesL (a ++ b) = nodesL a + nodesL b := by
  induction a with
  | nil => simp [nodesL]
  | cons x r ih => rw [List.cons_append, nodesL, nodesL, ih]; omega
/-- The list, cut shorter. -/
theorem own_cut {W : World} {B t n m g c : Nat} {xs : List Value} (h : W.ownsRow B t 5 (.slice (some ⟨g, 0, none⟩) n c) n xs) (hm : m ≤ n) : W.ownsRow B t 5 (.slice (some ⟨g, 0, none⟩) m c) m (xs.take (m * 5)) := by
  have hl := h.1
  rcases h.2 with ⟨e, _⟩ | ⟨g', c', cur, e, hb, hg, hn, hmax, hsz, hct⟩
  · cases e
  · cases e
    refine ⟨by rw [List.length_take]; omega, .inr ⟨g, c, cur, rfl, hb, hg, by omega, hmax, hsz, ?_⟩⟩
    rw [← hct, List.take_take]
    congr 1
    omega
theorem KRow.cut {S : Nat → Prop} {W : World} {xs : List Value} {ks : List TestD} {k : TestD} (h : KRow S W xs (ks ++ [k])) : KRow S W (xs.take (ks.length * 5)) ks := fun j x hj => by
  have hjl := (List.getElem?_eq_some_iff.1 hj).1
  obtain ⟨op, tx, nu, sg, v, q, a, b, c, d, e, f, hk⟩ := h j x (by rw [List.getElem?_append_left hjl]; exact hj)
  refine ⟨op, tx, nu, sg, v, q, a, ?_, ?_, ?_, ?_, ?_, hk⟩ <;> rw [List.getElem?_take, if_pos (by omega)] <;> assumption
set_option maxRecDepth 100000 in
set_option maxHeartbeats 4000000 in
theorem acts_any (op tx : ByteArray) (nu sg : Int) (ks : List TestD) (v : Value) (w : World) (hk : KidsIn (fun k => k < w.heap.size) w v ks) (hn : nodes (.mk op tx nu sg ks) ≤ 100000000) :
    Calls Try.prog 4 #[.agg #[.string op, .string tx, .int .i64 nu, .int .i64 sg, v]] w fun r w' => r = .returned (.bool (actsD (.mk op tx nu sg ks))) ∧ Below w.heap.size w w' := by
  obtain ⟨p, c, rfl⟩ := kin_shape hk
  have hb0 := tbox 28 w op tx nu sg (.slice p ks.length c)
  obtain ⟨b0, b1, b2, b3, b4, _⟩ := hb0.cells
  have hal : Below w.heap.size w (w.alloc (.cells #[.string op, .string tx, .int .i64 nu, .int .i64 sg, .slice p ks.length c] 28)) := (Below.refl _ _).alloc (Nat.le_refl _) _
  have HAL := hide hal
  have HK := hide hk
  clear hal hb0 hk
  go_enter Try.func4, Try.ntmps4
  go_wp2
  obtain ⟨i0, hi0, z0, z1, z2⟩ := info_parts Try.info28
  go_loopg [3, 4, 5] (nodes (.mk op tx nu sg ks)) (fun k ov _ _ wr => ∃ (st : List TestD) (g c' : Nat) (xs : List Value), ov = .slice (some ⟨g, 0, none⟩) st.length c' ∧ wr.ownsRow w.heap.size 28 5 ov st.length xs ∧ KRow (fun k => k < w.heap.size) wr xs st ∧ actsL st = actsD (.mk op tx nu sg ks) ∧ nodesL st ≤ k ∧ k ≤ 100000000 ∧ Below w.heap.size w wr)
  case atStart =>
    refine ⟨[.mk op tx nu sg ks], _, 1, [.string op, .string tx, .int .i64 nu, .int .i64 sg, .slice p ks.length c], rfl, ?_, ?_, by simp [actsL], by simp [nodesL], hn, HAL.out.alloc (by rw [World.size_alloc]; omega) _⟩
    · refine ⟨rfl, .inr ⟨_, 1, #[.string op, .string tx, .int .i64 nu, .int .i64 sg, .slice p ks.length c], rfl, by omega, ?_, by simp, by decide, rfl, rfl⟩⟩
      have := World.alloc_heap_new (w.alloc (.cells #[.string op, .string tx, .int .i64 nu, .int .i64 sg, .slice p ks.length c] 28)) (.cells #[.string op, .string tx, .int .i64 nu, .int .i64 sg, .slice p ks.length c] 28)
      rw [World.size_alloc] at this
      exact this
    · refine krow_one (HK.out.keep (fun k hk => hk) (fun k hk => ?_))
      rw [Below.heap_alloc _ _ k (by rw [World.size_alloc]; omega), Below.heap_alloc _ _ k hk]
  case round =>
    clear b0 b1 b2 b3 b4
    obtain ⟨st, g, c', xs, rfl, hown, hrow, hac, hnd, hkb, hb⟩ := hrel
    rcases List.eq_nil_or_concat st with rfl | ⟨pre, k, rfl⟩
    · have HB := hide hb
      have HAC := hide hac
      clear hb hac hown hrow
      go_wp2
      go_ret
      exact ⟨by rw [← HAC.out, actsL]; rfl, HB.out⟩
    · rw [List.concat_eq_append] at *
      have hlen : (pre ++ [k]).length = pre.length + 1 := by simp
      obtain ⟨op', tx', nu', sg', v', q, hke, x0, x1, x2, x3, x4, hkin⟩ := hrow pre.length k (by simp)
      have k0 := own5_cell hown x0
      have k1 := own5_cell hown x1
      have k2 := own5_cell hown x2
      have k3 := own5_cell hown x3
      have k4 := own5_cell hown x4
      obtain ⟨pa, pc, rfl⟩ := kin_shape hkin
      rw [hlen] at hown
      have hcut := own_cut hown (show pre.length ≤ pre.length + 1 by omega)
      have hrc := hrow.cut
      rw [hlen]
      have hpl : pre.length ≤ 100000000 := by
        have := len_nodes (pre ++ [k])
        omega
      have hpc : pre.length + 1 ≤ c' := by
        rcases hown.2 with ⟨e, _⟩ | ⟨g', c2, cur, e, _, _, hn, _⟩
        · cases e
        · cases e; exact hn
      have HX := hide (⟨hown, hcut, hrc, hac, hnd, hkb, hb, hkin⟩ : _ ∧ _ ∧ _ ∧ _ ∧ _ ∧ _ ∧ _ ∧ _)
      clear hown hcut hrc hac hnd hkb hb hkin hrow x0 x1 x2 x3 x4 hlen
      cases hAB : actB op' with
      | true =>
        have HAB := hide hAB
        clear hAB
        go_wp2_with (go_at_call 7; refine (isAction_any _ _).mono ?_; rintro e w2 ⟨rfl, rfl⟩; rw [HAB.out])
        go_ret
        refine ⟨?_, HX.out.2.2.2.2.2.2.1.alloc HX.out.2.2.2.2.2.2.1.size _⟩
        rw [← HX.out.2.2.2.1, hke, actsL_append, actsL, actsD, HAB.out]
        simp
      | false =>
        have HAB := hide hAB
        clear hAB
        go_wp2_with (go_at_call 7; refine (isAction_any _ _).mono ?_; rintro e w2 ⟨rfl, rfl⟩; rw [HAB.out])
        obtain ⟨m4, f4⟩ : (wr.alloc (.cells #[.string op', .string tx', .int .i64 nu', .int .i64 sg', .slice pa q.length pc] 28)).cell? ⟨wr.heap.size, 4, none⟩ = some (.slice pa q.length pc) ∧ True := ⟨(tbox 28 wr op' tx' nu' sg' (.slice pa q.length pc)).cells.2.2.2.2.1, trivial⟩
        obtain ⟨hown, hcut, hrc, hac, hnd, hkb, hb, hkin⟩ := HX.out
        have hb5 : Below wr.heap.size wr (wr.alloc (.cells #[.string op', .string tx', .int .i64 nu', .int .i64 sg', .slice pa q.length pc] 28)) := (Below.refl _ _).alloc (Nat.le_refl _) _
        obtain ⟨W5, hW5⟩ : ∃ W5, wr.alloc (.cells #[.string op', .string tx', .int .i64 nu', .int .i64 sg', .slice pa q.length pc] 28) = W5 := ⟨_, rfl⟩
        rw [hW5] at m4 hb5 ⊢
        have hs5 : W5.heap.size = wr.heap.size + 1 := by rw [← hW5, World.size_alloc]
        clear hW5 f4
        have hcut5 : W5.ownsRow w.heap.size 28 5 (.slice (some ⟨g, 0, none⟩) pre.length c') pre.length (xs.take (pre.length * 5)) := row_keep hcut (fun k c hk _ => (hb5.block k (Array.getElem?_eq_some_iff.1 hk).1).trans hk)
        have hpI : (pre.length : Int) ≤ (c' : Int) := by omega
        have hp0 : (0 : Int) ≤ (pre.length : Int) := by omega
        have hgl : g < wr.heap.size := own_lt hcut (g := g) rfl
        have hgw : w.heap.size ≤ g := (own_cells hcut (g := g) rfl).1
        rcases hkin with ⟨hpe, rfl⟩ | ⟨gq, cq, hpe, hpos, hck, hkk⟩
        · cases hpe
          have HY := hide (⟨hcut5, hrc, hac, hnd, hkb, hb, hb5, hs5⟩ : _ ∧ _ ∧ _ ∧ _ ∧ _ ∧ _ ∧ _ ∧ _)
          clear HX hown hcut hrc hac hnd hkb hb hb5 hs5 hcut5 hpc k0 k1 k2 k3 k4
          go_region
          go_wp2
          obtain ⟨hcut5, hrc, hac, hnd, hkb, hb, hb5, hs5⟩ := HY.out
          subst hke
          rw [nodesL_append, nodesL, nodes, nodesL] at hnd
          go_roundg (nodesL pre)
          case measure => omega
          case rel =>
            refine ⟨pre, g, c', _, rfl, hcut5, hrc.keep (W' := W5.drew) (fun k hk => hk) (fun k hk => hb5.block k (by have := hb.size; omega)), ?_, Nat.le_refl _, by omega, (hb.trans (hb5.mono hb.size)).drew⟩
            rw [← hac, actsL_append, actsL, actsD, HAB.out, actsL]
            simp
        · cases hpe
          obtain ⟨news, hnl, hnc, hn1, hnr⟩ := news_of q 0 (by simpa using hkk)
          have hgq : gq < w.heap.size := by
            exact (hkk 0 (q[0]'hpos) (List.getElem?_eq_getElem hpos)).blk
          have hws := hb.size
          have hq5 : W5.heap[gq]? = wr.heap[gq]? := hb5.block gq (by omega)
          have HN : Hid (∀ (j : Nat) (u : Value), news[j]? = some u → W5.drew.cell? ((⟨gq, 0, none⟩ : Addr).add j) = some u) := fun j u hj => by
            have e1 : (⟨gq, 0, none⟩ : Addr).add j = ⟨gq, j, none⟩ := by unfold Addr.add; split <;> simp_all
            rw [e1]
            have e2 := hnc j u hj
            rw [Nat.zero_add] at e2
            exact (cell_same (p := ⟨gq, j, none⟩) (W := wr) (W' := W5) hq5).trans e2
          have HO : Hid (W5.drew.ownsRow w.heap.size 28 5 (.slice (some ⟨g, 0, none⟩) pre.length c') pre.length (xs.take (pre.length * 5))) := hcut5
          subst hke
          have hql : q.length ≤ 100000000 := by
            rw [nodesL_append, nodesL, nodes, nodesL] at hnd
            have := len_nodes q
            omega
          have hwd : w.heap.size ≤ W5.drew.heap.size := by show _ ≤ W5.heap.size; omega
          have HY := hide (⟨hcut5, hrc, hac, hnd, hkb, hb, hb5, hs5, hnr⟩ : _ ∧ _ ∧ _ ∧ _ ∧ _ ∧ _ ∧ _ ∧ _ ∧ _)
          have HNL := hide hnl
          clear HX hown hcut hrc hac hnd hkb hb hb5 hs5 hcut5 hpc k0 k1 k2 k3 k4 hnl hnc hnr hkk hq5
          refine (fun (KEY : ∀ (g6 cap6 : Nat) (w6 : World), (w6.ownsRow w.heap.size 28 5 (.slice (some ⟨g6, 0, none⟩) (pre.length + q.length) cap6) (pre.length + q.length) (xs.take (pre.length * 5) ++ news) ∧ W5.drew.grownBy w6 (some g)) → (?G : Nat → Nat → World → Prop) g6 cap6 w6) => ?main) ?key
          case main =>
            go_region_law ((refine step_append_lies _ rfl (.tmp 23) (.tmp 25) 26 rfl w.heap.size 28 i0 _ 5 72 Try.underlying26' hi0 z0 z1 z2 rfl (by decide) (.slice (some ⟨g, 0, none⟩) pre.length c') pre.length (xs.take (pre.length * 5)) rfl HO.out ⟨gq, 0, none⟩ q.length pc news rfl HNL.out HN.out hn1 hpos (by unfold maxLen; omega) (by omega) hwd _ rfl ?_; intro g6 cap6 w6 hown6 hg6 hat6 hlt6))
            all_goals exact KEY g6 cap6 w6 ⟨hown6, hg6⟩
          case key =>
            rintro g6 cap6 w6 ⟨hown6, hg6⟩
            go_wp2
            obtain ⟨hcut5, hrc, hac, hnd, hkb, hb, hb5, hs5, hnr⟩ := HY.out
            rw [nodesL_append, nodesL, nodes, nodesL] at hnd
            have hbl : ∀ k, k < w.heap.size → w6.heap[k]? = wr.heap[k]? := fun k hk => (hg6.block k (by show k < W5.heap.size; omega) (fun e => by have e' := Option.some.inj e; omega)).trans (hb5.block k (by omega))
            go_roundg (nodesL pre + nodesL q)
            case measure => omega
            case rel =>
              refine ⟨pre ++ q, g6, cap6, _, by rw [List.length_append], by rw [List.length_append]; exact hown6, KRow.append (hrc.keep (fun k hk => hk) hbl) ?_ (hnr.keep (fun k hk => hk) hbl), ?_, by rw [nodesL_append]; exact Nat.le_refl _, by omega, ?_⟩
              · exact HO.out.1
              · rw [← hac, actsL_append, actsL_append, actsL, actsD, HAB.out, actsL]
                simp
              · refine ⟨hg6.os.trans ?_, hg6.tape.trans ?_, hg6.output.trans ?_, ?_, fun k hk => (hbl k hk).trans (hb.block k hk)⟩
                · exact (hb.trans (hb5.mono hb.size)).os
                · exact (hb.trans (hb5.mono hb.size)).tape
                · exact (hb.trans (hb5.mono hb.size)).output
                · exact Nat.le_trans (show w.heap.size ≤ W5.heap.size by omega) hg6.size
end Go.Proofs.Ytaokjoiklcikjaa
