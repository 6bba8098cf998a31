/- The reader: an atom. -/
import Derived.Test.YtdlljlmgoiobpaaGreatDoorErS
import Derived.Test.YtdlljlmgoiobpaaGreatDoorErQ
namespace Go.Proofs.YtdlljlmgoiobpaaGreatDoor
open Go.RowKit Go.Maps
/-- How a call ends that answers a part. -/
theorem pc_ret {fn : Func} {b g : Nat} {s : ByteArray} {d j : Nat} {w W : World} {p : PtD} {op : Int} {st : ByteArray} {ka : Option Addr} {m c : Nat} {ks : List ExprD} {a : Act} {o : Res PtD} (hr : fn.results = #[.cell 2 42]) (ha : a.tmps[2]? = some (.pointer (some ⟨g, 0, none⟩))) (hd : a.defers = []) (hbx : PaB W g 0 ⟨#[]⟩ none 0 0 0) (hpe : p.e = .mk op st.data.toList ks) (hst : st.size ≤ 1000000000) (hk : KidE b W ka m c ks) (h : RdB W b s j d) (hf : FrE b w W) (hgb : g ≠ b) (hg : w.heap.size ≤ g) (ho : o = .ok p j) :
    bodyPost Tryz.prog fn (PcP b s d o w) .ret a (set4 W g op st ka m c p.atoms) := by
  subst ho
  have fs := set4_fr W g op st ka m c p.atoms
  exact part_at hr ha hd (hbx.set4 op st ka m c p.atoms) ⟨⟨_, rfl, op, st, ka, m, c, ks, rfl, hpe, hst, hk.own hbx (by decide) fs⟩, h.own fs hgb, hf.own hg fs⟩
theorem pc_byte {fn : Func} {b g : Nat} {s : ByteArray} {d j : Nat} {w W : World} {st : ByteArray} {a : Act} {o : Res PtD} (hr : fn.results = #[.cell 2 42]) (ha : a.tmps[2]? = some (.pointer (some ⟨g, 0, none⟩))) (hd : a.defers = []) (hbx : PaB W g 0 ⟨#[]⟩ none 0 0 0) (hst : st.size ≤ 1000000000) (h : RdB W b s j d) (hf : FrE b w W) (hgb : g ≠ b) (hg : w.heap.size ≤ g) (ho : o = .ok ⟨.mk 2 st.data.toList [], 1⟩ j) :
    bodyPost Tryz.prog fn (PcP b s d o w) .ret a (set4 W g 2 st none 0 0 1) :=
  pc_ret (p := ⟨.mk 2 st.data.toList [], 1⟩) hr ha hd hbx rfl hst (.inl ⟨rfl, rfl, rfl, rfl⟩) h hf hgb hg ho
theorem FrE.of_below {b : Nat} {W W' : World} (h : Below W.heap.size W W') : FrE b W W' := fr_below h (Nat.le_refl _)
theorem fr_below_rd {b : Nat} {W W' : World} {s : ByteArray} {i d : Nat} (h : RdB W b s i d) (hb : Below W.heap.size W W') : RdB W' b s i d := (hb.block b (Array.getElem?_eq_some_iff.1 h).1).trans h
theorem rd_all {b : Nat} {W W' : World} {s : ByteArray} {i d : Nat} (h : RdB W b s i d) (hf : ∀ b, FrE b W W') : RdB W' b s i d := ((hf (b + 1)).block b (Array.getElem?_eq_some_iff.1 h).1 (by omega)).trans h
theorem textTo_le (S : BSet) (n : Nat) : (textTo S n).length ≤ n := by
  unfold textTo
  rw [List.length_map]
  exact Nat.le_trans (List.length_filter_le _ _) (by rw [List.length_range]; exact Nat.le_refl _)
theorem text_size (S : BSet) : (⟨(textTo S 256).toArray⟩ : ByteArray).size ≤ 1000000000 := by
  show (textTo S 256).toArray.size ≤ _
  rw [List.size_toArray]
  exact Nat.le_trans (textTo_le S 256) (by decide)
theorem brkD_size {l : List UInt8} {i j : Nat} {st : ByteArray} (h : brkD l i = .ok st j) : st.size ≤ 1000000000 := by
  unfold brkD at h
  split at h
  · cases h
  · cases h; exact text_size _
theorem escSD_size {l : List UInt8} {i j : Nat} {st : ByteArray} (h : escSD l i = .ok st j) : st.size ≤ 1000000000 := by
  unfold escSD at h
  split at h
  · cases h
  · split at h
    · cases h; show (1 : Nat) ≤ _; decide
    · cases h
set_option maxRecDepth 100000 in
set_option maxHeartbeats 2000000 in
theorem atom_any (b : Nat) (s : ByteArray) (d f : Nat) (ex : Nat → Res PtD) (hb1 : 1 < b) (hs : s.size ≤ 200) (hd : d + f = 20) (hex : f ≠ 0 → ReadsOK 20 b s (d + 1) ex) (hgo : f ≠ 0 → GoesE s.data.toList ex) : ReadsOK 44 b s d (atomD f ex s.data.toList) := by
  intro w i h hi hM
  have hgr := group_any b s d f ex hb1 hs hd hex hgo
  have hsl : s.data.toList.length = s.size := by simp
  have hb : b < w.heap.size := (Array.getElem?_eq_some_iff.1 h).1
  have hgb : w.heap.size ≠ b := by omega
  obtain ⟨W0, hW0⟩ : ∃ W0, w.alloc (.cells #[.int .i64 0, .string ⟨#[]⟩, .slice none 0 0, .int .i64 0] 42) = W0 := ⟨_, rfl⟩
  have h0 : RdB W0 b s i d := by rw [← hW0]; exact h.alloc _
  have f0 : FrE b w W0 := by rw [← hW0]; exact FrE.alloc _ _ _
  have p0 : PaB W0 w.heap.size 0 ⟨#[]⟩ none 0 0 0 := by rw [← hW0]; exact PaB.new w 0 ⟨#[]⟩ none 0 0 0
  obtain ⟨o, ho⟩ : ∃ o, atomD f ex s.data.toList i = o := ⟨_, rfl⟩
  rw [ho]
  have ht0 := take_any b s i d 40 W0 h0 hi hs
  have HM := hide hM
  clear h hM hex hgo
  by_cases c40 : s.data.toList[i]? = some 40
  · obtain ⟨e2, e3⟩ := take_yes c40 i
    rw [e2, e3] at ht0
    have hi1 : i + 1 ≤ s.size := by have := (List.getElem?_eq_some_iff.1 c40).1; omega
    unfold atomD at ho
    rw [if_pos c40] at ho
    have H0 := hide (⟨f0, p0, ho⟩ : _ ∧ _ ∧ _)
    clear e2 e3 c40 f0 p0 h0 ho
    go_enter Tryz.func44, Tryz.ntmps44
    go_wp2_with fail
    refine ht0.mono ?_
    rintro e w1 ⟨rfl, h1, f1⟩
    have F1 := H0.out.1.trans f1
    have p1 := H0.out.2.1.keep f1 hgb
    have hg := hgr w1 (i + 1) h1 hi1 (HM.out.fr hb1 hb F1)
    have HO := hide H0.out.2.2
    clear ht0 hgr h1 f1 H0 hW0
    rw [HO.out] at hg
    have H1 := hide (⟨F1, p1⟩ : _ ∧ _)
    clear F1 p1
    go_wp2_with fail
    refine hg.mono ?_
    cases o with
    | bad r =>
      rintro e w2 ⟨⟨p, rfl⟩, f2⟩
      exact ⟨rfl, ⟨_, rfl⟩, H1.out.1.trans f2⟩
    | ok p j =>
      rintro e w2 ⟨⟨v, rfl, op, st, ka, m, c, ks, rfl, hpe, hst, hk⟩, h2, f2⟩
      have p2 := H1.out.2.keep f2 hgb
      have F2 := H1.out.1.trans f2
      obtain ⟨a0, a1, a2, a3, af, al⟩ := p2.cells
      have H2 := hide (⟨p2, F2, h2, hpe, hk⟩ : _ ∧ _ ∧ _ ∧ _ ∧ _)
      clear p2 F2 h2 hpe hk f2 hg
      unfold partV
      go_wp2
      obtain ⟨p2, F2, h2, hpe, hk⟩ := H2.out
      exact pc_ret rfl rfl rfl p2 hpe hst hk h2 F2 hgb (Nat.le_refl _) rfl
  · obtain ⟨e2, e3⟩ := take_no c40 i
    rw [e2, e3] at ht0
    have H0 := hide (⟨f0, p0⟩ : _ ∧ _)
    have HO := hide (⟨ho, c40⟩ : _ ∧ _)
    clear e2 e3 c40 f0 p0 h0 ho hgr
    go_enter Tryz.func44, Tryz.ntmps44
    go_wp2_with fail
    refine ht0.mono ?_
    rintro e w1 ⟨rfl, h1, f1⟩
    have F1 := H0.out.1.trans f1
    have p1 := H0.out.2.keep f1 hgb
    have ht1 := take_any b s i d 46 w1 h1 hi hs
    clear ht0 f1 H0 hW0
    by_cases c46 : s.data.toList[i]? = some 46
    · obtain ⟨e2, e3⟩ := take_yes c46 i
      rw [e2, e3] at ht1
      have H1 := hide (⟨F1, p1, c46⟩ : _ ∧ _ ∧ _)
      clear e2 e3 c46 F1 p1 h1
      go_wp2_with fail
      refine ht1.mono ?_
      rintro e w2 ⟨rfl, h2, f2⟩
      have F2 := H1.out.1.trans f2
      have p2 := H1.out.2.1.keep f2 hgb
      have H2 := hide (⟨F2, p2, h2⟩ : _ ∧ _ ∧ _)
      clear F2 p2 h2 f2 ht1
      go_wp2_with fail
      refine (allBut_any w2).mono ?_
      rintro e w3 ⟨rfl, hb3⟩
      have F3 := H2.out.1.trans (FrE.of_below hb3)
      have p3 := H2.out.2.1.keep (FrE.of_below (b := b) hb3) hgb
      have h3 := fr_below_rd H2.out.2.2 hb3
      have H3 := hide (⟨F3, p3, h3⟩ : _ ∧ _ ∧ _)
      clear F3 p3 h3 hb3
      go_wp2_with fail
      refine (one_any _ w3).mono ?_
      rintro e w4 ⟨rfl, f4⟩
      have F4 := H3.out.1.trans (f4 b)
      have p4 := H3.out.2.1.keep (f4 b) hgb
      have h4 := rd_all H3.out.2.2 f4
      obtain ⟨a0, a1, a2, a3, af, al⟩ := p4.cells
      have H4 := hide (⟨F4, p4, h4⟩ : _ ∧ _ ∧ _)
      clear F4 p4 h4 f4
      unfold partV
      go_wp2
      obtain ⟨F4, p4, h4⟩ := H4.out
      refine pc_byte rfl rfl rfl p4 ?_ h4 F4 hgb (Nat.le_refl _) ?_
      · exact text_size _
      · rw [← HO.out.1]
        unfold atomD
        rw [if_neg HO.out.2, if_pos H1.out.2.2]
    · obtain ⟨e2, e3⟩ := take_no c46 i
      rw [e2, e3] at ht1
      have H1 := hide (⟨F1, p1, c46⟩ : _ ∧ _ ∧ _)
      clear e2 e3 c46 F1 p1 h1
      go_wp2_with fail
      refine ht1.mono ?_
      rintro e w2 ⟨rfl, h2, f2⟩
      have F2 := H1.out.1.trans f2
      have p2 := H1.out.2.1.keep f2 hgb
      have ht2 := take_any b s i d 91 w2 h2 hi hs
      clear ht1 f2
      by_cases c91 : s.data.toList[i]? = some 91
      · obtain ⟨e2, e3⟩ := take_yes c91 i
        rw [e2, e3] at ht2
        have hi1 : i + 1 ≤ s.size := by have := (List.getElem?_eq_some_iff.1 c91).1; omega
        have H2 := hide (⟨F2, p2, c91⟩ : _ ∧ _ ∧ _)
        clear e2 e3 c91 F2 p2 h2
        go_wp2_with fail
        refine ht2.mono ?_
        rintro e w3 ⟨rfl, h3, f3⟩
        have F3 := H2.out.1.trans f3
        have p3 := H2.out.2.1.keep f3 hgb
        have hbk := bracket_any b s (i + 1) d w3 h3 hi1 (by omega) hs (HM.out.fr hb1 hb F3) (by have := F3.size; omega)
        have hoe : o = partS (brkD s.data.toList (i + 1)) := by
          rw [← HO.out.1]
          unfold atomD
          rw [if_neg HO.out.2, if_neg H1.out.2.2, if_pos H2.out.2.2]
        have H3 := hide (⟨F3, p3, hoe⟩ : _ ∧ _ ∧ _)
        clear F3 p3 h3 f3 ht2 hoe
        obtain ⟨r, hr⟩ : ∃ r, brkD s.data.toList (i + 1) = r := ⟨_, rfl⟩
        rw [hr] at hbk
        have HRR := hide hr
        clear hr
        go_wp2_with fail
        refine hbk.mono ?_
        cases r with
        | bad r =>
          rintro e w4 ⟨⟨p, rfl⟩, f4⟩
          refine ⟨rfl, ?_⟩
          rw [H3.out.2.2, HRR.out]
          exact ⟨⟨_, rfl⟩, H3.out.1.trans f4⟩
        | ok st j =>
          rintro e w4 ⟨rfl, h4, f4⟩
          have F4 := H3.out.1.trans f4
          have p4 := H3.out.2.1.keep f4 hgb
          obtain ⟨a0, a1, a2, a3, af, al⟩ := p4.cells
          have H4 := hide (⟨F4, p4, h4⟩ : _ ∧ _ ∧ _)
          clear F4 p4 h4 f4 hbk
          unfold partV
          go_wp2
          obtain ⟨F4, p4, h4⟩ := H4.out
          refine pc_byte rfl rfl rfl p4 ?_ h4 F4 hgb (Nat.le_refl _) ?_
          · exact brkD_size HRR.out
          · rw [H3.out.2.2, HRR.out]
            rfl
      · obtain ⟨e2, e3⟩ := take_no c91 i
        rw [e2, e3] at ht2
        have H2 := hide (⟨F2, p2, c91⟩ : _ ∧ _ ∧ _)
        clear e2 e3 c91 F2 p2 h2
        go_wp2_with fail
        refine ht2.mono ?_
        rintro e w3 ⟨rfl, h3, f3⟩
        have F3 := H2.out.1.trans f3
        have p3 := H2.out.2.1.keep f3 hgb
        have ht3 := take_any b s i d 92 w3 h3 hi hs
        clear ht2 f3
        by_cases c92 : s.data.toList[i]? = some 92
        · obtain ⟨e2, e3⟩ := take_yes c92 i
          rw [e2, e3] at ht3
          have hi1 : i + 1 ≤ s.size := by have := (List.getElem?_eq_some_iff.1 c92).1; omega
          have H3 := hide (⟨F3, p3, c92⟩ : _ ∧ _ ∧ _)
          clear e2 e3 c92 F3 p3 h3
          go_wp2_with fail
          refine ht3.mono ?_
          rintro e w4 ⟨rfl, h4, f4⟩
          have F4 := H3.out.1.trans f4
          have p4 := H3.out.2.1.keep f4 hgb
          have hes := escaped_any b s (i + 1) d w4 h4 hi1 hs
          have hoe : o = partS (escSD s.data.toList (i + 1)) := by
            rw [← HO.out.1]
            unfold atomD
            rw [if_neg HO.out.2, if_neg H1.out.2.2, if_neg H2.out.2.2, if_pos H3.out.2.2]
          have H4 := hide (⟨F4, p4, hoe⟩ : _ ∧ _ ∧ _)
          clear F4 p4 h4 f4 ht3 hoe
          obtain ⟨r, hr⟩ : ∃ r, escSD s.data.toList (i + 1) = r := ⟨_, rfl⟩
          rw [hr] at hes
          have HRR := hide hr
          clear hr
          go_wp2_with fail
          refine hes.mono ?_
          cases r with
          | bad r =>
            rintro e w5 ⟨⟨p, rfl⟩, f5⟩
            refine ⟨rfl, ?_⟩
            rw [H4.out.2.2, HRR.out]
            exact ⟨⟨_, rfl⟩, H4.out.1.trans f5⟩
          | ok st j =>
            rintro e w5 ⟨rfl, h5, f5⟩
            have F5 := H4.out.1.trans f5
            have p5 := H4.out.2.1.keep f5 hgb
            obtain ⟨a0, a1, a2, a3, af, al⟩ := p5.cells
            have H5 := hide (⟨F5, p5, h5⟩ : _ ∧ _ ∧ _)
            clear F5 p5 h5 f5 hes
            unfold partV
            go_wp2
            obtain ⟨F5, p5, h5⟩ := H5.out
            refine pc_byte rfl rfl rfl p5 ?_ h5 F5 hgb (Nat.le_refl _) ?_
            · exact escSD_size HRR.out
            · rw [H4.out.2.2, HRR.out]
              rfl
        · obtain ⟨e2, e3⟩ := take_no c92 i
          rw [e2, e3] at ht3
          have H3 := hide (⟨F3, p3, c92⟩ : _ ∧ _ ∧ _)
          clear e2 e3 c92 F3 p3 h3
          go_wp2_with fail
          refine ht3.mono ?_
          rintro e w4 ⟨rfl, h4, f4⟩
          have F4 := H3.out.1.trans f4
          have p4 := H3.out.2.1.keep f4 hgb
          obtain ⟨c0, c1, c2, cf⟩ := h4.cells
          have hoe : o = litD s.data.toList i := by
            rw [← HO.out.1]
            unfold atomD
            rw [if_neg HO.out.2, if_neg H1.out.2.2, if_neg H2.out.2.2, if_neg H3.out.2.2]
          clear ht3 f4 c2 cf HO H1 H2 H3
          by_cases hlt : i < s.size
          · have hge : s.data.toList[i]? = some s[i] := by rw [List.getElem?_eq_getElem (by simpa using hlt)]; rfl
            have hne : ((i : Int) == (s.size : Int)) = false := by rw [beq_eq_false_iff_ne]; omega
            have hiI : (i : Int) < (s.size : Int) := by omega
            have hix : ∀ W, Calls Tryz.prog 60 #[.string ⟨#[94, 46, 91, 36, 40, 41, 124, 42, 43, 63, 123, 92]⟩, .int .u8 (s[i].toNat : Int)] W fun e w' => e = .returned (.int .i64 (Lib.indexByte noBytesL s[i])) ∧ w' = W := fun W => by
              have := Tryz.strings_IndexByte ⟨noBytesL.toArray⟩ (s[i].toNat : Int) W
              rw [show ((s[i].toNat : Int)).toNat.toUInt8 = s[i] by simp] at this
              exact this
            obtain ⟨ix, hixe⟩ : ∃ ix, Lib.indexByte noBytesL s[i] = ix := ⟨_, rfl⟩
            have hmem := index_mem noBytesL s[i]
            rw [hixe] at hix hmem
            unfold litD at hoe
            rw [hge] at hoe
            simp only at hoe
            by_cases hin : 0 ≤ ix
            · have hsg : noBytesL.contains s[i] = true := by rw [← hmem]; exact decide_eq_true hin
              rw [if_pos hsg] at hoe
              have hdc : decide (0 ≤ ix) = true := decide_eq_true hin
              have HR := hide (⟨F4, hoe⟩ : _ ∧ _)
              clear hge hmem hixe F4 p4 h4 hsg hoe
              go_wp2_with fail
              go_region_held3 (fun w' => w'.cell? ⟨b, 0, none⟩ = some (.string s) ∧ w'.cell? ⟨b, 1, none⟩ = some (.int .i64 (i : Int))) (go_keep) (first | (go_at_call 60; refine (hix _).mono ?_; rintro e w5 ⟨rfl, rfl⟩))
              all_goals go_wp2_with (go_at_call 19; refine (throw_any _ _ _).mono ?_; rintro e w5 ⟨rfl, hw⟩; rw [hw]; clear hw)
              all_goals
                refine ⟨rfl, ?_⟩
                rw [HR.out.2]
                exact ⟨⟨_, rfl⟩, HR.out.1.drew⟩
            · have hsg : noBytesL.contains s[i] = false := by rw [← hmem]; exact decide_eq_false hin
              rw [if_neg (by rw [hsg]; decide)] at hoe
              have hdc : decide (0 ≤ ix) = false := decide_eq_false hin
              have HR := hide (⟨F4, hoe, p4, h4⟩ : _ ∧ _ ∧ _ ∧ _)
              clear hge hmem hixe F4 p4 h4 hsg hoe
              go_wp2_with fail
              go_region_held3 (fun w' => w'.cell? ⟨b, 0, none⟩ = some (.string s) ∧ w'.cell? ⟨b, 1, none⟩ = some (.int .i64 (i : Int))) (go_keep) (first | (go_at_call 60; refine (hix _).mono ?_; rintro e w5 ⟨rfl, rfl⟩))
              all_goals go_wp2_with fail
              all_goals
                have h5 : RdB w4.drew b s i d := HR.out.2.2.2
                refine (literal_any b s i d _ h5 hlt hs).mono ?_
                rintro e w6 ⟨rfl, h6, f6⟩
                have p5 : PaB w4.drew w.heap.size 0 ⟨#[]⟩ none 0 0 0 := HR.out.2.2.1
                have p6 := p5.keep f6 hgb
                have F6 := HR.out.1.drew.trans f6
                obtain ⟨a0, a1, a2, a3, af, al⟩ := p6.cells
                have H6 := hide (⟨h6, p6, F6⟩ : _ ∧ _ ∧ _)
                clear h6 p6 F6 f6 p5 h5 hix
                unfold partV
                go_wp2
                obtain ⟨h6, p6, F6⟩ := H6.out
                exact pc_byte rfl rfl rfl p6 (by show (1 : Nat) ≤ _; decide) h6 F6 hgb (Nat.le_refl _) HR.out.2.1
          · have hge : s.data.toList[i]? = none := List.getElem?_eq_none (by omega)
            have hie : i = s.size := by omega
            have hne : ((i : Int) == (s.size : Int)) = true := by rw [beq_iff_eq]; omega
            unfold litD at hoe
            rw [hge] at hoe
            simp only at hoe
            have HR := hide (⟨F4, hoe⟩ : _ ∧ _)
            clear hge F4 p4 h4 hoe hie hlt
            go_wp2
            go_region
            all_goals go_wp2_with (go_at_call 19; refine (throw_any _ _ _).mono ?_; rintro e w5 ⟨rfl, hw⟩; rw [hw]; clear hw)
            all_goals
              refine ⟨rfl, ?_⟩
              rw [HR.out.2]
              exact ⟨⟨_, rfl⟩, HR.out.1.drew⟩
end Go.Proofs.YtdlljlmgoiobpaaGreatDoor
