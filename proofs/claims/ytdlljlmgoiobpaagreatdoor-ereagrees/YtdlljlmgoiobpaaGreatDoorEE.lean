/- Merged: ErE, ErF, ErG. -/
import Derived.Test.YtdlljlmgoiobpaaGreatDoorEA
/- The reader: what stands behind a brace. -/
namespace Go.Proofs.YtdlljlmgoiobpaaGreatDoor
open Go.RowKit Go.Maps
theorem FrE.alloc (b : Nat) (W : World) (o : Obj) : FrE b W (W.alloc o) := ⟨rfl, rfl, rfl, by rw [World.size_alloc]; omega, fun k hk _ => Below.heap_alloc W o k hk⟩
theorem RdB.alloc {W : World} {b : Nat} {s : ByteArray} {i d : Nat} (h : RdB W b s i d) (o : Obj) : RdB (W.alloc o) b s i d := by
  have hb : b < W.heap.size := (Array.getElem?_eq_some_iff.1 h).1
  unfold RdB
  exact (Below.heap_alloc W o b hb).trans h
/-- A block that holds how often. -/
def TmB (W : World) (g : Nat) (t : TimesD) : Prop := W.heap[g]? = some (.cells #[.int .i64 t.least, .int .i64 t.most, .bool t.endless] 103 (0, 0))
theorem TmB.cells {W : World} {g : Nat} {t : TimesD} (h : TmB W g t) : W.cell? ⟨g, 0, none⟩ = some (.int .i64 t.least) ∧ W.cell? ⟨g, 1, none⟩ = some (.int .i64 t.most) ∧ W.cell? ⟨g, 2, none⟩ = some (.bool t.endless) ∧ (∀ j, W.frozen? ⟨g, j, none⟩ = false) ∧ g < W.heap.size := by
  refine ⟨?_, ?_, ?_, ?_, (Array.getElem?_eq_some_iff.1 h).1⟩ <;> unfold TmB at h <;> simp [World.cell?, World.frozen?, h]
theorem TmB.keep {b g : Nat} {W W' : World} {t : TimesD} (h : TmB W g t) (hf : FrE b W W') (hg : g ≠ b) : TmB W' g t := (hf.block g (Array.getElem?_eq_some_iff.1 h).1 hg).trans h
theorem TmB.new (W : World) (t : TimesD) : TmB (W.alloc (.cells #[.int .i64 t.least, .int .i64 t.most, .bool t.endless] 103)) W.heap.size t := World.alloc_heap_new W _
def CntP (b : Nat) (s : ByteArray) (d : Nat) (o : Res TimesD) (w : World) (e : Ending) (w' : World) : Prop := match o with
  | .bad r => (∃ p, e = .panicked (thrown (r : Int) p)) ∧ FrE b w w'
  | .ok t j => e = .returned (timesV t) ∧ RdB w' b s j d ∧ FrE b w w'
/-- All three written. -/
def set3 (W : World) (g : Nat) (t : TimesD) : World := ((W.setCell ⟨g, 0, none⟩ (.int .i64 t.least)).setCell ⟨g, 1, none⟩ (.int .i64 t.most)).setCell ⟨g, 2, none⟩ (.bool t.endless)
theorem TmB.set3 {W : World} {g : Nat} {t0 : TimesD} (h : TmB W g t0) (t : TimesD) : TmB (set3 W g t) g t := by
  obtain ⟨hl, hk⟩ := Array.getElem?_eq_some_iff.1 h
  have e1 : (W.setCell ⟨g, 0, none⟩ (.int .i64 t.least)).heap[g]? = some (.cells #[.int .i64 t.least, .int .i64 t0.most, .bool t0.endless] 103 (0, 0)) := by
    show (W.heap.modify g _)[g]? = _
    rw [Array.getElem?_eq_getElem (by rw [Array.size_modify]; exact hl), Array.getElem_modify_self, hk]
    rfl
  obtain ⟨hl1, hk1⟩ := Array.getElem?_eq_some_iff.1 e1
  have e2 : ((W.setCell ⟨g, 0, none⟩ (.int .i64 t.least)).setCell ⟨g, 1, none⟩ (.int .i64 t.most)).heap[g]? = some (.cells #[.int .i64 t.least, .int .i64 t.most, .bool t0.endless] 103 (0, 0)) := by
    show ((W.setCell ⟨g, 0, none⟩ (.int .i64 t.least)).heap.modify g _)[g]? = _
    rw [Array.getElem?_eq_getElem (by rw [Array.size_modify]; exact hl1), Array.getElem_modify_self, hk1]
    rfl
  obtain ⟨hl2, hk2⟩ := Array.getElem?_eq_some_iff.1 e2
  show (((W.setCell ⟨g, 0, none⟩ (.int .i64 t.least)).setCell ⟨g, 1, none⟩ (.int .i64 t.most)).heap.modify g _)[g]? = _
  rw [Array.getElem?_eq_getElem (by rw [Array.size_modify]; exact hl2), Array.getElem_modify_self, hk2]
  rfl
theorem set3_fr (W : World) (g : Nat) (t : TimesD) : FrE g W (set3 W g t) := ((FrE.set g W 0 _).trans (FrE.set g _ 1 _)).trans (FrE.set g _ 2 _)
theorem FrE.own {b g : Nat} {w W W' : World} (h : FrE b w W) (hg : w.heap.size ≤ g) (k : FrE g W W') : FrE b w W' := ⟨k.os.trans h.os, k.tape.trans h.tape, k.output.trans h.output, Nat.le_trans h.size k.size, fun j hj hne => (k.block j (Nat.lt_of_lt_of_le hj h.size) (by omega)).trans (h.block j hj hne)⟩
theorem RdB.own {b g : Nat} {W W' : World} {s : ByteArray} {i d : Nat} (h : RdB W b s i d) (k : FrE g W W') (hg : g ≠ b) : RdB W' b s i d := (k.block b (Array.getElem?_eq_some_iff.1 h).1 (fun e => hg e.symm)).trans h
theorem FrE.drew {b : Nat} {w W : World} (h : FrE b w W) : FrE b w W.drew := ⟨h.os, h.tape, h.output, h.size, h.block⟩
/-- How counted ends. -/
theorem counted_ret {b g : Nat} {s : ByteArray} {j d : Nat} {w W : World} {t t0 : TimesD} {a : Act} {o : Res TimesD} (ha : a.tmps[2]? = some (.pointer (some ⟨g, 0, none⟩))) (hd : a.defers = []) (h : RdB W b s j d) (hf : FrE b w W) (ht : TmB W g t0) (hg : w.heap.size ≤ g) (hgb : g ≠ b) (ho : o = .ok t j) :
    bodyPost Tryz.prog Tryz.f62 (CntP b s d o w) .ret a (set3 W g t) := by
  have hs := ht.set3 t
  obtain ⟨c0, c1, c2, cf, cl⟩ := hs.cells
  subst ho
  refine bodyPost_ret (v := timesV t) ?_ hd ⟨rfl, h.own (set3_fr W g t) hgb, hf.own hg (set3_fr W g t)⟩
  simp [results, Tryz.results62, go_sem, ha, c0, c1, c2, timesV]
theorem digB_lt {l : List UInt8} {i : Nat} (h : digB l[i]? = true) : i < l.length := by
  by_cases hl : i < l.length
  · exact hl
  · rw [List.getElem?_eq_none (by omega)] at h; cases h
theorem digs_len {l : List UInt8} {i : Nat} (hi : i ≤ l.length) : i + digs l i ≤ l.length := by
  unfold digs
  split
  · rename_i h0
    have := digB_lt h0
    split
    · rename_i h1
      have := digB_lt h1
      split
      · rename_i h2
        have := digB_lt h2
        omega
      · omega
    · omega
  · omega
theorem numD_room {l : List UInt8} {i j : Nat} {least n : Int} (hi : i ≤ l.length) (h : numD l i least = .ok n j) : j ≤ l.length := by
  unfold numD at h
  split at h
  · cases h
  · split at h
    · cases h
    · cases h; exact digs_len hi
theorem TmB.put1 {W : World} {g : Nat} {t : TimesD} (h : TmB W g t) (m : Int) : TmB (W.setCell ⟨g, 1, none⟩ (.int .i64 m)) g ⟨t.least, m, t.endless⟩ := by
  obtain ⟨hl, hk⟩ := Array.getElem?_eq_some_iff.1 h
  show (W.heap.modify g _)[g]? = _
  rw [Array.getElem?_eq_getElem (by rw [Array.size_modify]; exact hl), Array.getElem_modify_self, hk]
  rfl
theorem TmB.put2 {W : World} {g : Nat} {t : TimesD} (h : TmB W g t) (e : Bool) : TmB (W.setCell ⟨g, 2, none⟩ (.bool e)) g ⟨t.least, t.most, e⟩ := by
  obtain ⟨hl, hk⟩ := Array.getElem?_eq_some_iff.1 h
  show (W.heap.modify g _)[g]? = _
  rw [Array.getElem?_eq_getElem (by rw [Array.size_modify]; exact hl), Array.getElem_modify_self, hk]
  rfl
set_option maxRecDepth 100000 in
set_option maxHeartbeats 2000000 in
theorem counted_any (b : Nat) (s : ByteArray) (i d : Nat) (w : World) (h : RdB w b s i d) (hi : i ≤ s.size) (hs : s.size ≤ 200) :
    Calls Tryz.prog 62 #[.pointer (some ⟨b, 0, none⟩)] w (CntP b s d (countD s.data.toList i) w) := by
  have hsl : s.data.toList.length = s.size := by simp
  have hb : b < w.heap.size := (Array.getElem?_eq_some_iff.1 h).1
  obtain ⟨W0, hW0⟩ : ∃ W0, w.alloc (Obj.cells #[.int .i64 0, .int .i64 0, .bool false] 103) = W0 := ⟨_, rfl⟩
  have h0 : RdB W0 b s i d := by rw [← hW0]; exact h.alloc _
  have t0 : TmB W0 w.heap.size ⟨0, 0, false⟩ := by rw [← hW0]; exact TmB.new w ⟨0, 0, false⟩
  have f0 : FrE b w W0 := by rw [← hW0]; exact FrE.alloc _ _ _
  have hgb : w.heap.size ≠ b := by omega
  have hn := number_any b s i d 0 W0 h0 hi hs
  obtain ⟨o, ho⟩ : ∃ o, numD s.data.toList i 0 = o := ⟨_, rfl⟩
  rw [ho] at hn
  cases o with
  | bad r =>
    have HR := hide (⟨ho, f0⟩ : _ ∧ _)
    clear h h0 t0 f0 ho
    go_enter Tryz.func62, Tryz.ntmps62
    go_wp2_with fail
    refine hn.mono ?_
    rintro e w1 ⟨⟨p, rfl⟩, hf⟩
    refine ⟨rfl, ?_⟩
    unfold countD
    rw [HR.out.1]
    exact ⟨⟨_, rfl⟩, HR.out.2.trans hf⟩
  | ok n j =>
    have hj := numD_room (by rw [hsl]; exact hi) ho
    have HR := hide (⟨ho, f0, t0, hb⟩ : _ ∧ _ ∧ _ ∧ _)
    clear h h0 t0 f0 ho
    go_enter Tryz.func62, Tryz.ntmps62
    go_wp2_with fail
    refine hn.mono ?_
    rintro e w1 ⟨rfl, hr, hf⟩
    have t1 := HR.out.2.2.1.keep hf hgb
    have hg1 : w.heap.size < w1.heap.size := t1.cells.2.2.2.2
    have f1 := HR.out.2.1.trans hf
    clear hf hn hW0
    have h2 := hr.alloc (.cells #[.int .i64 n, .int .i64 n, .bool false] 103)
    have f2 := f1.trans (FrE.alloc b w1 (.cells #[.int .i64 n, .int .i64 n, .bool false] 103))
    have t2 := t1.keep (FrE.alloc b w1 (.cells #[.int .i64 n, .int .i64 n, .bool false] 103)) hgb
    have u2 := TmB.new w1 ⟨n, n, false⟩
    obtain ⟨g2, hg2⟩ : ∃ g2, w1.heap.size = g2 := ⟨_, rfl⟩
    obtain ⟨W2, hW2⟩ : ∃ W2, w1.alloc (.cells #[.int .i64 n, .int .i64 n, .bool false] 103) = W2 := ⟨_, rfl⟩
    simp only at u2
    rw [hg2] at u2 hg1
    rw [hW2] at h2 f2 t2 u2
    have hg2b : g2 ≠ b := by omega
    have hgg : g2 ≠ w.heap.size := by omega
    have hgg' : w.heap.size ≠ g2 := by omega
    rw [hsl] at hj
    have htk := take_any b s j d 44 W2 h2 hj hs
    have HW := hide (⟨hg2, hW2⟩ : _ ∧ _)
    clear hr f1 t1 hg2 hW2
    by_cases hc : s.data.toList[j]? = some 44
    · obtain ⟨e2, e3⟩ := take_yes hc j
      rw [e2, e3] at htk
      clear e2 e3
      have hj1 : j + 1 ≤ s.size := by
        have := (List.getElem?_eq_some_iff.1 hc).1
        omega
      obtain ⟨q, hq⟩ : ∃ q, j + 1 = q := ⟨_, rfl⟩
      rw [hq] at htk hj1
      have H1 := hide (⟨h2, f2, t2, u2, hc, hq, hsl⟩ : _ ∧ _ ∧ _ ∧ _ ∧ _ ∧ _ ∧ _)
      clear h2 f2 t2 u2 hc hq hsl
      by_cases hz : s.data.toList[q]? = some 125
      · have hqs : q < s.size := by have := (List.getElem?_eq_some_iff.1 hz).1; rw [H1.out.2.2.2.2.2.2] at this; exact this
        have hqI : (q : Int) < (s.size : Int) := by omega
        have hge : s[q] = 125 := by
          have : s.data.toList[q]? = some s[q] := by rw [List.getElem?_eq_getElem (by simpa using hqs)]; rfl
          rw [this] at hz; exact Option.some.inj hz
        have hbq : ((s[q].toNat : Int) == 125) = true := by rw [hge]; rfl
        have HZ := hide hz
        clear hz hge
        go_wp2_with fail
        rw [HW.out.2, HW.out.1]
        refine htk.mono ?_
        rintro e w3 ⟨rfl, h3, f3⟩
        have t3 := H1.out.2.2.1.keep f3 hgb
        have u3 := H1.out.2.2.2.1.keep f3 hg2b
        have F3 := H1.out.2.1.trans f3
        obtain ⟨b0, b1, b2, bf, bl⟩ := u3.cells
        obtain ⟨c0, c1, c2, cf⟩ := h3.cells
        have bf2 := bf 2
        have H3 := hide (⟨h3, t3, u3, F3⟩ : _ ∧ _ ∧ _ ∧ _)
        clear t3 u3 F3 h3 f3 htk bf cf
        go_wp2
        go_region
        go_wp2_with fail
        clear b0 b1 b2 bl c0 c1 c2 bf2
        have h4 := (H3.out.1.own (FrE.set g2 w3 2 (.bool true)) hg2b)
        have t4 := H3.out.2.1.keep (FrE.set g2 w3 2 (.bool true)) hgg'
        have u4 := H3.out.2.2.1.put2 true
        have F4 := (H3.out.2.2.2.own (Nat.le_of_lt hg1) (FrE.set g2 w3 2 (.bool true))).drew
        have t4 : TmB (w3.setCell ⟨g2, 2, none⟩ (.bool true)).drew w.heap.size ⟨0, 0, false⟩ := t4
        have u4 : TmB (w3.setCell ⟨g2, 2, none⟩ (.bool true)).drew g2 ⟨n, n, true⟩ := u4
        have h4 : RdB (w3.setCell ⟨g2, 2, none⟩ (.bool true)).drew b s q d := h4
        obtain ⟨W4, hW4⟩ : ∃ W4, (w3.setCell ⟨g2, 2, none⟩ (.bool true)).drew = W4 := ⟨_, rfl⟩
        rw [hW4] at t4 u4 F4 h4 ⊢
        have hw := want_any b s q d 125 W4 h4 hj1 hs
        have H4 := hide (⟨t4, u4, F4, h4⟩ : _ ∧ _ ∧ _ ∧ _)
        clear t4 u4 F4 h4 hW4
        refine hw.mono ?_
        rintro e w5 (⟨hc2, rfl, h5, f5⟩ | ⟨hc2, ⟨p, rfl⟩, f5⟩)
        · have t5 := H4.out.1.keep f5 hgb
          have u5 := H4.out.2.1.keep f5 hg2b
          have F5 := H4.out.2.2.1.trans f5
          obtain ⟨a0, a1, a2, af, al⟩ := t5.cells
          obtain ⟨b0, b1, b2, bf, bl⟩ := u5.cells
          have HQ := hide (⟨h5, F5, hc2⟩ : _ ∧ _ ∧ _)
          have HT := hide t5
          clear h5 F5 f5 t5 u5 hw hc2
          go_wp2
          refine counted_ret (t := ⟨n, n, true⟩) rfl rfl HQ.out.1 HQ.out.2.1 HT.out (Nat.le_refl _) hgb ?_
          unfold countD
          rw [HR.out.1]
          simp only
          rw [if_pos H1.out.2.2.2.2.1, H1.out.2.2.2.2.2.1, if_pos HZ.out, show j + 2 = q + 1 by have := H1.out.2.2.2.2.2.1; omega]
        · exact absurd HZ.out hc2
      · have hn2 := fun W h => number_any b s q d n W h hj1 hs
        obtain ⟨o, ho⟩ : ∃ o, numD s.data.toList q n = o := ⟨_, rfl⟩
        rw [ho] at hn2
        have HZ := hide (⟨hz, ho⟩ : _ ∧ _)
        have hcase : (∃ h : (q : Int) < (s.size : Int), ((s[q]'(by omega)).toNat == (125 : Int)) = false) ∨ (¬ q < s.size ∧ decide (q < s.size) = false) := by
          by_cases hqs : q < s.size
          · left
            refine ⟨by omega, ?_⟩
            have hge : s.data.toList[q]? = some s[q] := by rw [List.getElem?_eq_getElem (by simpa using hqs)]; rfl
            rw [beq_eq_false_iff_ne]
            intro e
            refine hz ?_
            rw [hge]
            congr 1
            exact UInt8.toNat_inj.1 (by have h125 : (125 : UInt8).toNat = 125 := rfl; omega)
          · right; exact ⟨hqs, decide_eq_false hqs⟩
        clear hz ho
        go_wp2_with fail
        rw [HW.out.2, HW.out.1]
        refine htk.mono ?_
        rintro e w3 ⟨rfl, h3, f3⟩
        have t3 := H1.out.2.2.1.keep f3 hgb
        have u3 := H1.out.2.2.2.1.keep f3 hg2b
        have F3 := H1.out.2.1.trans f3
        obtain ⟨b0, b1, b2, bf, bl⟩ := u3.cells
        obtain ⟨c0, c1, c2, cf⟩ := h3.cells
        have bf2 := bf 2
        have H3 := hide (⟨h3, t3, u3, F3⟩ : _ ∧ _ ∧ _ ∧ _)
        clear t3 u3 F3 h3 f3 htk bf cf
        rcases hcase with ⟨hqI, hbq⟩ | ⟨hqI, hqd⟩
        all_goals go_wp2
        all_goals go_region
        all_goals go_wp2_with fail
        all_goals clear b0 b1 b2 bl c0 c1 c2 bf2
        all_goals have h4 := (H3.out.1.own (FrE.set g2 w3 2 (.bool false)) hg2b)
        all_goals have t4 := H3.out.2.1.keep (FrE.set g2 w3 2 (.bool false)) hgg'
        all_goals have u4 := H3.out.2.2.1.put2 false
        all_goals have F4 := (H3.out.2.2.2.own (Nat.le_of_lt hg1) (FrE.set g2 w3 2 (.bool false))).drew
        all_goals have t4 : TmB (w3.setCell ⟨g2, 2, none⟩ (.bool false)).drew w.heap.size ⟨0, 0, false⟩ := t4
        all_goals have u4 : TmB (w3.setCell ⟨g2, 2, none⟩ (.bool false)).drew g2 ⟨n, n, false⟩ := u4
        all_goals have h4 : RdB (w3.setCell ⟨g2, 2, none⟩ (.bool false)).drew b s q d := h4
        all_goals obtain ⟨W4, hW4⟩ : ∃ W4, (w3.setCell ⟨g2, 2, none⟩ (.bool false)).drew = W4 := ⟨_, rfl⟩
        all_goals rw [hW4] at t4 u4 F4 h4 ⊢
        all_goals clear hW4
        all_goals cases o with
          | bad r =>
            have H4 := hide (⟨t4, u4, F4⟩ : _ ∧ _ ∧ _)
            have hn3 := hn2 W4 h4
            clear t4 u4 F4 h4
            refine hn3.mono ?_
            rintro e w5 ⟨⟨p, rfl⟩, f5⟩
            refine ⟨rfl, ?_⟩
            unfold countD
            rw [HR.out.1]
            simp only
            rw [if_pos H1.out.2.2.2.2.1, H1.out.2.2.2.2.2.1, if_neg HZ.out.1, HZ.out.2]
            exact ⟨⟨_, rfl⟩, H4.out.2.2.trans f5⟩
          | ok m k =>
            have hk := numD_room (by rw [H1.out.2.2.2.2.2.2]; exact hj1) HZ.out.2
            rw [H1.out.2.2.2.2.2.2] at hk
            have hn3 := hn2 W4 h4
            refine hn3.mono ?_
            rintro e w5 ⟨rfl, h5, f5⟩
            have t5 := t4.keep f5 hgb
            have u5 := u4.keep f5 hg2b
            have F5 := F4.trans f5
            obtain ⟨b0, b1, b2, bf, bl⟩ := u5.cells
            have bf1 := bf 1
            have h6 := h5.own (FrE.set g2 w5 1 (.int .i64 m)) hg2b
            have t6 := t5.keep (FrE.set g2 w5 1 (.int .i64 m)) hgg'
            have u6 := u5.put1 m
            have F6 := F5.own (Nat.le_of_lt hg1) (FrE.set g2 w5 1 (.int .i64 m))
            have H6 := hide (⟨t6, u6, F6, h6⟩ : _ ∧ _ ∧ _ ∧ _)
            clear t4 u4 F4 h4 t5 u5 F5 h5 f5 hn3 hn2 t6 u6 F6 h6 bf
            go_wp2_with fail
            clear b0 b1 b2 bl bf1
            obtain ⟨t6, u6, F6, h6⟩ := H6.out
            obtain ⟨W6, hW6⟩ : ∃ W6, w5.setCell ⟨g2, 1, none⟩ (.int .i64 m) = W6 := ⟨_, rfl⟩
            rw [hW6] at t6 u6 F6 h6 ⊢
            have H7 := hide (⟨t6, u6, F6⟩ : _ ∧ _ ∧ _)
            clear H6 hW6 t6 u6 F6
            have hw := want_any b s k d 125 W6 h6 hk hs
            clear h6
            refine hw.mono ?_
            rintro e w7 (⟨hc2, rfl, h7, f7⟩ | ⟨hc2, ⟨p, rfl⟩, f7⟩)
            · have t7 := H7.out.1.keep f7 hgb
              have u7 := H7.out.2.1.keep f7 hg2b
              have F7 := H7.out.2.2.trans f7
              obtain ⟨a0, a1, a2, af, al⟩ := t7.cells
              obtain ⟨b0, b1, b2, bf, bl⟩ := u7.cells
              have HQ := hide (⟨h7, F7, hc2⟩ : _ ∧ _ ∧ _)
              have HT := hide t7
              clear h7 F7 f7 t7 u7 hw hc2
              go_wp2
              refine counted_ret (t := ⟨n, m, false⟩) rfl rfl HQ.out.1 HQ.out.2.1 HT.out (Nat.le_refl _) hgb ?_
              unfold countD
              rw [HR.out.1]
              simp only
              rw [if_pos H1.out.2.2.2.2.1, H1.out.2.2.2.2.2.1, if_neg HZ.out.1, HZ.out.2]
              simp only
              rw [if_pos HQ.out.2.2]
            · refine ⟨rfl, ?_⟩
              unfold countD
              rw [HR.out.1]
              simp only
              rw [if_pos H1.out.2.2.2.2.1, H1.out.2.2.2.2.2.1, if_neg HZ.out.1, HZ.out.2]
              simp only
              rw [if_neg hc2]
              exact ⟨⟨_, rfl⟩, H7.out.2.2.trans f7⟩
    · obtain ⟨e2, e3⟩ := take_no hc j
      rw [e2, e3] at htk
      clear e2 e3
      have H1 := hide (⟨h2, f2, t2, u2, hc⟩ : _ ∧ _ ∧ _ ∧ _ ∧ _)
      clear h2 f2 t2 u2 hc hsl
      go_wp2_with fail
      rw [HW.out.2, HW.out.1]
      refine htk.mono ?_
      rintro e w3 ⟨rfl, h3, f3⟩
      have t3 := H1.out.2.2.1.keep f3 hgb
      have u3 := H1.out.2.2.2.1.keep f3 hg2b
      have F3 := H1.out.2.1.trans f3
      have hw := want_any b s j d 125 w3 h3 hj hs
      clear htk f3 h3
      have H3 := hide (⟨t3, u3, F3⟩ : _ ∧ _ ∧ _)
      clear t3 u3 F3
      go_wp2_with fail
      refine hw.mono ?_
      rintro e w4 (⟨hc2, rfl, h4, f4⟩ | ⟨hc2, ⟨p, rfl⟩, f4⟩)
      · have t4 := H3.out.1.keep f4 hgb
        have u4 := H3.out.2.1.keep f4 hg2b
        have F4 := H3.out.2.2.trans f4
        obtain ⟨a0, a1, a2, af, al⟩ := t4.cells
        obtain ⟨b0, b1, b2, bf, bl⟩ := u4.cells
        have HQ := hide (⟨h4, F4, hc2⟩ : _ ∧ _ ∧ _)
        have HT := hide t4
        clear h4 F4 f4 t4 u4 hw hc2
        go_wp2
        refine counted_ret (t := ⟨n, n, false⟩) rfl rfl HQ.out.1 HQ.out.2.1 HT.out (Nat.le_refl _) hgb ?_
        unfold countD
        rw [HR.out.1]
        simp only
        rw [if_neg H1.out.2.2.2.2, if_pos HQ.out.2.2]
      · refine ⟨rfl, ?_⟩
        unfold countD
        rw [HR.out.1]
        simp only
        rw [if_neg H1.out.2.2.2.2, if_neg hc2]
        exact ⟨⟨_, rfl⟩, H3.out.2.2.trans f4⟩
end Go.Proofs.YtdlljlmgoiobpaaGreatDoor
/- The reader: a sign that says how often. -/
namespace Go.Proofs.YtdlljlmgoiobpaaGreatDoor
open Go.RowKit Go.Maps
def RepP (b : Nat) (s : ByteArray) (i d : Nat) (o : Option (Res TimesD)) (w : World) (e : Ending) (w' : World) : Prop := match o with
  | none => e = .returned (.tuple #[timesV ⟨0, 0, false⟩, .bool false]) ∧ RdB w' b s i d ∧ FrE b w w'
  | some (.bad r) => (∃ p, e = .panicked (thrown (r : Int) p)) ∧ FrE b w w'
  | some (.ok t j) => e = .returned (.tuple #[timesV t, .bool true]) ∧ RdB w' b s j d ∧ FrE b w w'
theorem repeater_ret {b g : Nat} {s : ByteArray} {i j d : Nat} {w W : World} {t t0 : TimesD} {a : Act} {o : Option (Res TimesD)} {f : Bool} (ha : a.tmps[2]? = some (.pointer (some ⟨g, 0, none⟩))) (hf3 : a.tmps[3]? = some (.bool f)) (hd : a.defers = []) (h : RdB W b s j d) (hf : FrE b w W) (ht : TmB W g t0) (hg : w.heap.size ≤ g) (hgb : g ≠ b) (ho : (f = true ∧ o = some (.ok t j)) ∨ (f = false ∧ o = none ∧ t = ⟨0, 0, false⟩ ∧ j = i)) :
    bodyPost Tryz.prog Tryz.f45 (RepP b s i d o w) .ret a (set3 W g t) := by
  have hs := ht.set3 t
  obtain ⟨c0, c1, c2, cf, cl⟩ := hs.cells
  refine bodyPost_ret (v := .tuple #[timesV t, .bool f]) ?_ hd ?_
  · simp [results, Tryz.results45, go_sem, ha, hf3, c0, c1, c2, timesV]
  · rcases ho with ⟨rfl, rfl⟩ | ⟨rfl, rfl, rfl, rfl⟩
    · exact ⟨rfl, h.own (set3_fr W g _) hgb, hf.own hg (set3_fr W g _)⟩
    · exact ⟨rfl, h.own (set3_fr W g _) hgb, hf.own hg (set3_fr W g _)⟩
set_option maxRecDepth 100000 in
set_option maxHeartbeats 2000000 in
theorem repeater_any (b : Nat) (s : ByteArray) (i d : Nat) (w : World) (h : RdB w b s i d) (hi : i ≤ s.size) (hs : s.size ≤ 200) :
    Calls Tryz.prog 45 #[.pointer (some ⟨b, 0, none⟩)] w (RepP b s i d (repD s.data.toList i) w) := by
  have hsl : s.data.toList.length = s.size := by simp
  have hb : b < w.heap.size := (Array.getElem?_eq_some_iff.1 h).1
  obtain ⟨W0, hW0⟩ : ∃ W0, w.alloc (Obj.cells #[.int .i64 0, .int .i64 0, .bool false] 103) = W0 := ⟨_, rfl⟩
  have h0 : RdB W0 b s i d := by rw [← hW0]; exact h.alloc _
  have t0 : TmB W0 w.heap.size ⟨0, 0, false⟩ := by rw [← hW0]; exact TmB.new w ⟨0, 0, false⟩
  have f0 : FrE b w W0 := by rw [← hW0]; exact FrE.alloc _ _ _
  have hgb : w.heap.size ≠ b := by omega
  clear h
  have HI := hide (⟨hi, hsl⟩ : _ ∧ _)
  clear hsl
  have H0 := hide (⟨h0, t0, f0⟩ : _ ∧ _ ∧ _)
  clear h0 t0 f0
  go_enter Tryz.func45, Tryz.ntmps45
  go_wp2_with fail
  have hk0 := take_any b s i d 42 W0 H0.out.1 hi hs
  by_cases hc0 : s.data.toList[i]? = some 42
  · obtain ⟨e2, e3⟩ := take_yes hc0 i
    rw [e2, e3] at hk0
    have C0 := hide hc0
    clear e2 e3 hc0
    refine hk0.mono ?_
    rintro e W1 ⟨rfl, h1, f1⟩
    have t1 := H0.out.2.1.keep f1 hgb
    have F1 := H0.out.2.2.trans f1
    obtain ⟨a0, a1, a2, af, al⟩ := t1.cells
    have H1 := hide (⟨h1, t1, F1⟩ : _ ∧ _ ∧ _)
    clear h1 t1 F1 f1 hk0
    go_wp2
    exact repeater_ret (t := ⟨0, 0, true⟩) rfl rfl rfl H1.out.1 H1.out.2.2 H1.out.2.1 (Nat.le_refl _) hgb (.inl ⟨rfl, by unfold repD; rw [if_pos C0.out]⟩)
  · obtain ⟨e2, e3⟩ := take_no hc0 i
    rw [e2, e3] at hk0
    have N0 := hide hc0
    clear e2 e3 hc0
    refine hk0.mono ?_
    rintro e W1 ⟨rfl, h1, f1⟩
    have t1 := H0.out.2.1.keep f1 hgb
    have F1 := H0.out.2.2.trans f1
    have H1 := hide (⟨h1, t1, F1⟩ : _ ∧ _ ∧ _)
    clear h1 t1 F1 f1 hk0
    go_wp2_with fail
    have hk1 := take_any b s i d 43 W1 H1.out.1 hi hs
    by_cases hc1 : s.data.toList[i]? = some 43
    · obtain ⟨e2, e3⟩ := take_yes hc1 i
      rw [e2, e3] at hk1
      have C1 := hide hc1
      clear e2 e3 hc1
      refine hk1.mono ?_
      rintro e W2 ⟨rfl, h1, f1⟩
      have t1 := H1.out.2.1.keep f1 hgb
      have F1 := H1.out.2.2.trans f1
      obtain ⟨a0, a1, a2, af, al⟩ := t1.cells
      have H2 := hide (⟨h1, t1, F1⟩ : _ ∧ _ ∧ _)
      clear h1 t1 F1 f1 hk1
      go_wp2
      exact repeater_ret (t := ⟨1, 0, true⟩) rfl rfl rfl H2.out.1 H2.out.2.2 H2.out.2.1 (Nat.le_refl _) hgb (.inl ⟨rfl, by unfold repD; rw [if_neg N0.out, if_pos C1.out]⟩)
    · obtain ⟨e2, e3⟩ := take_no hc1 i
      rw [e2, e3] at hk1
      have N1 := hide hc1
      clear e2 e3 hc1
      refine hk1.mono ?_
      rintro e W2 ⟨rfl, h1, f1⟩
      have t1 := H1.out.2.1.keep f1 hgb
      have F1 := H1.out.2.2.trans f1
      have H2 := hide (⟨h1, t1, F1⟩ : _ ∧ _ ∧ _)
      clear h1 t1 F1 f1 hk1
      go_wp2_with fail
      have hk2 := take_any b s i d 63 W2 H2.out.1 hi hs
      by_cases hc2 : s.data.toList[i]? = some 63
      · obtain ⟨e2, e3⟩ := take_yes hc2 i
        rw [e2, e3] at hk2
        have C2 := hide hc2
        clear e2 e3 hc2
        refine hk2.mono ?_
        rintro e W3 ⟨rfl, h1, f1⟩
        have t1 := H2.out.2.1.keep f1 hgb
        have F1 := H2.out.2.2.trans f1
        obtain ⟨a0, a1, a2, af, al⟩ := t1.cells
        have H3 := hide (⟨h1, t1, F1⟩ : _ ∧ _ ∧ _)
        clear h1 t1 F1 f1 hk2
        go_wp2
        exact repeater_ret (t := ⟨0, 1, false⟩) rfl rfl rfl H3.out.1 H3.out.2.2 H3.out.2.1 (Nat.le_refl _) hgb (.inl ⟨rfl, by unfold repD; rw [if_neg N0.out, if_neg N1.out, if_pos C2.out]⟩)
      · obtain ⟨e2, e3⟩ := take_no hc2 i
        rw [e2, e3] at hk2
        have N2 := hide hc2
        clear e2 e3 hc2
        refine hk2.mono ?_
        rintro e W3 ⟨rfl, h1, f1⟩
        have t1 := H2.out.2.1.keep f1 hgb
        have F1 := H2.out.2.2.trans f1
        have H3 := hide (⟨h1, t1, F1⟩ : _ ∧ _ ∧ _)
        clear h1 t1 F1 f1 hk2
        go_wp2_with fail
        have hk3 := take_any b s i d 123 W3 H3.out.1 hi hs
        by_cases hc3 : s.data.toList[i]? = some 123
        · obtain ⟨e2, e3⟩ := take_yes hc3 i
          rw [e2, e3] at hk3
          have hi1 : i + 1 ≤ s.size := by have := (List.getElem?_eq_some_iff.1 hc3).1; rw [HI.out.2] at this; omega
          have C3 := hide hc3
          clear e2 e3 hc3
          refine hk3.mono ?_
          rintro e W4 ⟨rfl, h1, f1⟩
          have t1 := H3.out.2.1.keep f1 hgb
          have F1 := H3.out.2.2.trans f1
          have H4 := hide (⟨h1, t1, F1⟩ : _ ∧ _ ∧ _)
          clear h1 t1 F1 f1 hk3
          go_wp2_with fail
          have hcn := counted_any b s (i + 1) d W4 H4.out.1 hi1 hs
          obtain ⟨o, ho⟩ : ∃ o, countD s.data.toList (i + 1) = o := ⟨_, rfl⟩
          rw [ho] at hcn
          have HO := hide ho
          clear ho
          cases o with
          | bad r =>
            refine hcn.mono ?_
            rintro e w5 ⟨⟨p, rfl⟩, f5⟩
            refine ⟨rfl, ?_⟩
            unfold repD
            rw [if_neg N0.out, if_neg N1.out, if_neg N2.out, if_pos C3.out, HO.out]
            exact ⟨⟨_, rfl⟩, H4.out.2.2.trans f5⟩
          | ok t j =>
            refine hcn.mono ?_
            rintro e w5 ⟨rfl, h5, f5⟩
            have t5 := H4.out.2.1.keep f5 hgb
            have F5 := H4.out.2.2.trans f5
            obtain ⟨a0, a1, a2, af, al⟩ := t5.cells
            have H5 := hide (⟨h5, t5, F5⟩ : _ ∧ _ ∧ _)
            clear h5 t5 F5 f5 hcn
            unfold timesV
            go_wp2
            exact repeater_ret (t := t) rfl rfl rfl H5.out.1 H5.out.2.2 H5.out.2.1 (Nat.le_refl _) hgb (.inl ⟨rfl, by unfold repD; rw [if_neg N0.out, if_neg N1.out, if_neg N2.out, if_pos C3.out, HO.out]⟩)
        · obtain ⟨e2, e3⟩ := take_no hc3 i
          rw [e2, e3] at hk3
          have N3 := hide hc3
          clear e2 e3 hc3
          refine hk3.mono ?_
          rintro e W4 ⟨rfl, h1, f1⟩
          have t1 := H3.out.2.1.keep f1 hgb
          have F1 := H3.out.2.2.trans f1
          obtain ⟨a0, a1, a2, af, al⟩ := t1.cells
          have H4 := hide (⟨h1, t1, F1⟩ : _ ∧ _ ∧ _)
          clear h1 t1 F1 f1 hk3
          go_wp2
          exact repeater_ret (t := ⟨0, 0, false⟩) rfl rfl rfl H4.out.1 H4.out.2.2 H4.out.2.1 (Nat.le_refl _) hgb (.inr ⟨rfl, by unfold repD; rw [if_neg N0.out, if_neg N1.out, if_neg N2.out, if_neg N3.out], rfl, rfl⟩)
end Go.Proofs.YtdlljlmgoiobpaaGreatDoor
/- The reader: atoms of one byte. -/
namespace Go.Proofs.YtdlljlmgoiobpaaGreatDoor
open Go.RowKit Go.Maps
/-- So many are written out. -/
def copiesD (t : TimesD) : Int := if t.endless then t.least + 1 else t.most
/-- A part as a value. -/
def partV (op : Int) (set : ByteArray) (ka : Option Addr) (m c : Nat) (n : Int) : Value := .agg #[.int .i64 op, .string set, .slice ka m c, .int .i64 n]
set_option maxRecDepth 100000 in
theorem copies_any (t : TimesD) (w : World) (h0 : 0 ≤ t.least) (h1 : t.least ≤ 255) : Calls Tryz.prog 63 #[timesV t] w fun e w' => e = .returned (.int .i64 (copiesD t)) ∧ ∀ b, FrE b w w' := by
  obtain ⟨l, m, z⟩ := t
  unfold timesV
  simp only at h0 h1 ⊢
  cases z with
  | true =>
    go_enter Tryz.func63, Tryz.ntmps63
    go_wp2
    go_ret
    exact ⟨rfl, fun b => FrE.alloc b w _⟩
  | false =>
    go_enter Tryz.func63, Tryz.ntmps63
    go_wp2
    go_ret
    exact ⟨rfl, fun b => FrE.alloc b w _⟩
/-- A block that holds a part. -/
def PaB (W : World) (g : Nat) (op : Int) (set : ByteArray) (ka : Option Addr) (m c : Nat) (n : Int) : Prop := W.heap[g]? = some (.cells #[.int .i64 op, .string set, .slice ka m c, .int .i64 n] 42 (0, 0))
theorem PaB.cells {W : World} {g : Nat} {op : Int} {set : ByteArray} {ka : Option Addr} {m c : Nat} {n : Int} (h : PaB W g op set ka m c n) : W.cell? ⟨g, 0, none⟩ = some (.int .i64 op) ∧ W.cell? ⟨g, 1, none⟩ = some (.string set) ∧ W.cell? ⟨g, 2, none⟩ = some (.slice ka m c) ∧ W.cell? ⟨g, 3, none⟩ = some (.int .i64 n) ∧ (∀ j, W.frozen? ⟨g, j, none⟩ = false) ∧ g < W.heap.size := by
  refine ⟨?_, ?_, ?_, ?_, ?_, (Array.getElem?_eq_some_iff.1 h).1⟩ <;> unfold PaB at h <;> simp [World.cell?, World.frozen?, h]
theorem PaB.keep {b g : Nat} {W W' : World} {op : Int} {set : ByteArray} {ka : Option Addr} {m c : Nat} {n : Int} (h : PaB W g op set ka m c n) (hf : FrE b W W') (hg : g ≠ b) : PaB W' g op set ka m c n := (hf.block g (Array.getElem?_eq_some_iff.1 h).1 hg).trans h
theorem PaB.new (W : World) (op : Int) (set : ByteArray) (ka : Option Addr) (m c : Nat) (n : Int) : PaB (W.alloc (.cells #[.int .i64 op, .string set, .slice ka m c, .int .i64 n] 42)) W.heap.size op set ka m c n := World.alloc_heap_new W _
/-- All four written. -/
def set4 (W : World) (g : Nat) (op : Int) (set : ByteArray) (ka : Option Addr) (m c : Nat) (n : Int) : World := (((W.setCell ⟨g, 0, none⟩ (.int .i64 op)).setCell ⟨g, 1, none⟩ (.string set)).setCell ⟨g, 2, none⟩ (.slice ka m c)).setCell ⟨g, 3, none⟩ (.int .i64 n)
theorem set4_fr (W : World) (g : Nat) (op : Int) (set : ByteArray) (ka : Option Addr) (m c : Nat) (n : Int) : FrE g W (set4 W g op set ka m c n) := (((FrE.set g W 0 _).trans (FrE.set g _ 1 _)).trans (FrE.set g _ 2 _)).trans (FrE.set g _ 3 _)
theorem cells_set {W : World} {g j : Nat} {a : Array Value} {y : Nat} {z : Nat × Nat} (h : W.heap[g]? = some (.cells a y z)) (v : Value) : (W.setCell ⟨g, j, none⟩ v).heap[g]? = some (.cells (a.set! j v) y z) := by
  obtain ⟨hl, hk⟩ := Array.getElem?_eq_some_iff.1 h
  show (W.heap.modify g _)[g]? = _
  rw [Array.getElem?_eq_getElem (by rw [Array.size_modify]; exact hl), Array.getElem_modify_self, hk]
  rfl
theorem PaB.set4 {W : World} {g : Nat} {op0 : Int} {set0 : ByteArray} {ka0 : Option Addr} {m0 c0 : Nat} {n0 : Int} (h : PaB W g op0 set0 ka0 m0 c0 n0) (op : Int) (set : ByteArray) (ka : Option Addr) (m c : Nat) (n : Int) : PaB (set4 W g op set ka m c n) g op set ka m c n := cells_set (cells_set (cells_set (cells_set h _) _) _) _
/-- How a call ends that answers a part. -/
theorem part_at {fn : Func} {g : Nat} {W : World} {op : Int} {set : ByteArray} {ka : Option Addr} {m c : Nat} {n : Int} {a : Act} {R : Ending → World → Prop} (hr : fn.results = #[.cell 2 42]) (ha : a.tmps[2]? = some (.pointer (some ⟨g, 0, none⟩))) (hd : a.defers = []) (h : PaB W g op set ka m c n) (hR : R (.returned (partV op set ka m c n)) W) : bodyPost Tryz.prog fn R .ret a W := by
  obtain ⟨c0, c1, c2, c3, cf, cl⟩ := h.cells
  refine bodyPost_ret (v := partV op set ka m c n) ?_ hd hR
  simp [results, hr, go_sem, ha, c0, c1, c2, c3, partV]
set_option maxRecDepth 100000 in
theorem one_any (s : ByteArray) (w : World) : Calls Tryz.prog 56 #[.string s] w fun e w' => e = .returned (partV 2 s none 0 0 1) ∧ ∀ b, FrE b w w' := by
  go_enter Tryz.func56, Tryz.ntmps56
  go_wp2
  exact part_at rfl rfl rfl (PaB.new w 2 s none 0 0 1) ⟨rfl, fun b => FrE.alloc b w _⟩
theorem cell_first {W : World} {g : Nat} {v : Value} {a : List Value} {y : Nat} {z : Nat × Nat} (h : W.heap[g]? = some (.cells ⟨v :: a⟩ y z)) : W.cell? ⟨g, 0, none⟩ = some v := by simp [World.cell?, h]
/-- One byte as a text. -/
def byteT (c : UInt8) : ByteArray := ⟨#[c]⟩
theorem conv_byte (W : World) (g : Nat) (c : UInt8) (h : W.cell? ⟨g, 0, none⟩ = some (.int .u8 (c.toNat : Int))) : (convert 120 9 (.slice (some ⟨g, 0, none⟩) 1 1)).run Tryz.prog W = .ok (.string (byteT c)) W := by
  refine run_convert_bytes_back W 120 9 5 ⟨g, 0, none⟩ 1 [c] Tryz.underlying120 Tryz.underlying5 Tryz.underlying9 fun j hj => ?_
  have : j = 0 := by simp at hj; omega
  subst this
  exact h
set_option maxRecDepth 100000 in
set_option maxHeartbeats 1000000 in
theorem literal_any (b : Nat) (s : ByteArray) (i d : Nat) (w : World) (h : RdB w b s i d) (hi : i < s.size) (hs : s.size ≤ 200) :
    Calls Tryz.prog 61 #[.pointer (some ⟨b, 0, none⟩)] w fun e w' => e = .returned (partV 2 (byteT s[i]) none 0 0 1) ∧ RdB w' b s (i + 1) d ∧ FrE b w w' := by
  have hb : b < w.heap.size := (Array.getElem?_eq_some_iff.1 h).1
  have hgb : w.heap.size ≠ b := by omega
  obtain ⟨c0, c1, c2, cf⟩ := h.cells
  have f1 := cf 1
  have hiI : (i : Int) < (s.size : Int) := by omega
  have HR := hide h
  clear h cf c2
  go_enter Tryz.func61, Tryz.ntmps61
  go_wp2
  go_region
  go_wp2_with fail
  obtain ⟨W, hW⟩ : ∃ W, (((w.setCell ⟨b, 1, none⟩ (.int .i64 ((i : Int) + 1))).alloc (.cells #[.int .i64 0, .string ⟨#[]⟩, .slice none 0 0, .int .i64 0] 42)).alloc (.cells #[.int .u8 (s[i].toNat : Int)] 5)).drew = W := ⟨_, rfl⟩
  have hz0 : (w.setCell ⟨b, 1, none⟩ (.int .i64 ((i : Int) + 1))).heap.size = w.heap.size := by
    show (w.heap.modify _ _).size = _
    rw [Array.size_modify]
  have hcell : W.cell? ⟨w.heap.size + 1, 0, none⟩ = some (.int .u8 (s[i].toNat : Int)) := by
    have := World.alloc_heap_new ((w.setCell ⟨b, 1, none⟩ (.int .i64 ((i : Int) + 1))).alloc (.cells #[.int .i64 0, .string ⟨#[]⟩, .slice none 0 0, .int .i64 0] 42)) (.cells #[.int .u8 (s[i].toNat : Int)] 5)
    rw [World.size_alloc, hz0] at this
    have h2 : W.heap[w.heap.size + 1]? = some (.cells #[.int .u8 (s[i].toNat : Int)] 5) := by rw [← hW]; exact this
    exact cell_first h2
  have hr : RdB W b s (i + 1) d := by
    rw [← hW]
    exact (((HR.out).at_ (i + 1)).alloc _).alloc _
  have hf : FrE b w W := by
    rw [← hW]
    exact (((FrE.set b w 1 (.int .i64 ((i : Int) + 1))).trans (FrE.alloc b _ _)).trans (FrE.alloc b _ _)).drew
  have hp : PaB W w.heap.size 0 ⟨#[]⟩ none 0 0 0 := by
    rw [← hW]
    have := PaB.new (w.setCell ⟨b, 1, none⟩ (.int .i64 ((i : Int) + 1))) 0 ⟨#[]⟩ none 0 0 0
    rw [hz0] at this
    exact this.keep (FrE.alloc b _ _).drew hgb
  rw [hW, conv_byte W _ _ hcell]
  have HQ := hide (⟨hr, hf, hp⟩ : _ ∧ _ ∧ _)
  clear hW hcell hr hf hp hz0 c0 c1 f1
  go_wp2_with fail
  refine (one_any _ _).mono ?_
  rintro e w3 ⟨rfl, f3⟩
  have h3 := HQ.out.1.own (f3 w3.heap.size) (by have := (f3 b).size; have := (Array.getElem?_eq_some_iff.1 HQ.out.1).1; omega)
  have p3 := HQ.out.2.2.keep (f3 b) hgb
  have F3 := HQ.out.2.1.trans (f3 b)
  obtain ⟨a0, a1, a2, a3, af, al⟩ := p3.cells
  have H3 := hide (⟨h3, p3, F3⟩ : _ ∧ _ ∧ _)
  clear h3 p3 F3 f3
  unfold partV
  go_wp2
  exact part_at rfl rfl rfl (H3.out.2.1.set4 2 (byteT s[i]) none 0 0 1) ⟨rfl, H3.out.1.own (set4_fr _ _ _ _ _ _ _ _) hgb, H3.out.2.2.own (Nat.le_refl _) (set4_fr _ _ _ _ _ _ _ _)⟩
end Go.Proofs.YtdlljlmgoiobpaaGreatDoor
