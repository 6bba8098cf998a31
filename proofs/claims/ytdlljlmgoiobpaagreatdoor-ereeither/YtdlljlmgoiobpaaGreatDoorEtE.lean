/- The law EreEither. -/
import Derived.Test.YtdlljlmgoiobpaaGreatDoorEsC
import Derived.Test.YtdlljlmgoiobpaaGreatDoorET
namespace Go.Proofs.YtdlljlmgoiobpaaGreatDoor
open Go.RowKit Go.Maps
theorem bool_or {m p q : Bool} (h : m = true ↔ (p = true ∨ q = true)) : m = (p || q) := by
  revert h; cases m <;> cases p <;> cases q <;> simp
theorem bool_and {n p r : Bool} (h : p = true → r = true → n = true) : (n || !p || !r) = true := by
  revert h; cases n <;> cases p <;> cases r <;> simp
theorem err_zero {l : List UInt8} (h : (ereErr (readD l) : Int) = 0) : ∃ p j, readD l = .ok p j := by
  cases hr : readD l with
  | bad q =>
    rw [hr] at h
    have h : (q : Int) = 0 := h
    exact absurd (by rw [hr, show q = 0 by omega]) (noz_read l)
  | ok p j => exact ⟨p, j, rfl⟩
/-- What the program answers of a text with a bar. -/
theorem mat_either {a b s : List UInt8} {p q m : Bool} (ha : (ereErr (readD a) : Int) = 0) (hb : (ereErr (readD b) : Int) = 0) (he : (ereErr (readD (a ++ 124 :: b)) : Int) = 0) (hp : MatP a s p) (hq : MatP b s q) (hm : MatP (a ++ 124 :: b) s m) : m = (p || q) := by
  obtain ⟨pa, ja, ra⟩ := err_zero ha
  obtain ⟨pb, jb, rb⟩ := err_zero hb
  obtain ⟨pe, je, re⟩ := err_zero he
  have h := read_either ra rb re s
  unfold MatP at hp hq hm
  rw [ra] at hp
  rw [rb] at hq
  rw [re] at hm
  simp only at hp hq hm
  rw [← hp, ← hq, ← hm] at h
  exact bool_or h
theorem mat_both {a b s t : List UInt8} {p r n : Bool} (ha : (ereErr (readD a) : Int) = 0) (hb : (ereErr (readD b) : Int) = 0) (he : (ereErr (readD (40 :: a ++ 41 :: 40 :: b ++ [41])) : Int) = 0) (hp : MatP a s p) (hr : MatP b t r) (hn : MatP (40 :: a ++ 41 :: 40 :: b ++ [41]) (s ++ t) n) : (n || !p || !r) = true := by
  obtain ⟨pa, ja, ra⟩ := err_zero ha
  obtain ⟨pb, jb, rb⟩ := err_zero hb
  obtain ⟨pe, je, re⟩ := err_zero he
  have h := read_both ra rb re s t
  unfold MatP at hp hr hn
  rw [ra] at hp
  rw [rb] at hr
  rw [re] at hn
  simp only at hp hr hn
  rw [← hp, ← hr, ← hn] at h
  exact bool_and h
set_option maxRecDepth 100000 in
set_option maxHeartbeats 4000000 in
theorem eitherLaw_any (a b s t : ByteArray) (w : World) (hG : GE w) (ha : a.size ≤ 200000000000000) (hb : b.size ≤ 200000000000000) (hs : s.size ≤ 200000000000000) (ht : t.size ≤ 200000000000000) :
    Calls Tryz.prog 4 #[.string a, .string b, .string s, .string t] w fun e w' => e = .returned (.bool true) ∧ Below w.heap.size w w' := by
  obtain ⟨EA, hEA⟩ : ∃ E : Int, (ereErr (readD a.data.toList) : Int) = E := ⟨_, rfl⟩
  obtain ⟨EB, hEB⟩ : ∃ E : Int, (ereErr (readD b.data.toList) : Int) = E := ⟨_, rfl⟩
  have HEA := hide hEA
  have HEB := hide hEB
  clear hEA hEB
  have hm1 := ematch_any a s w hG (by omega) (by omega)
  rw [HEA.out] at hm1
  have HG := hide hG
  clear hG
  go_enter Tryz.func4, Tryz.ntmps4
  go_wp2_with fail
  refine hm1.mono ?_
  rintro e w1 ⟨⟨p, rfl, hp⟩, b1⟩
  have hm2 := ematch_any b s w1 (HG.out.below b1) (by omega) (by omega)
  rw [HEB.out] at hm2
  have HP := hide hp
  clear hp hm1
  go_wp2_with fail
  refine hm2.mono ?_
  rintro e w2 ⟨⟨q, rfl, hq⟩, b2⟩
  have B2 := b1.trans (below_weaken b2 b1.size)
  have hm3 := ematch_any b t w2 (HG.out.below B2) (by omega) (by omega)
  rw [HEB.out] at hm3
  have HQ := hide hq
  clear hq hm2 b1 b2
  go_wp2_with fail
  refine hm3.mono ?_
  rintro e w3 ⟨⟨r, rfl, hr⟩, b3⟩
  have B3 := B2.trans (below_weaken b3 B2.size)
  have hm4 := readere_any a w3 (by omega)
  have HR := hide hr
  clear hr hm3 B2 b3
  go_wp2_with fail
  refine hm4.mono ?_
  rintro e w4 ⟨b4, op4, st4, ka4, m4, c4, pl4, rfl⟩
  rw [HEA.out]
  obtain ⟨W5, hW5⟩ : ∃ W5, w4.alloc (.cells #[.int .i64 op4, .string st4, .slice ka4 m4 c4] 32) = W5 := ⟨_, rfl⟩
  have b5 : Below w4.heap.size w4 W5 := by rw [← hW5]; exact (FrE.alloc w4.heap.size _ _).below (Nat.le_refl _)
  have B5 : Below w.heap.size w W5 := (B3.trans (below_weaken b4 B3.size)).trans (below_weaken b5 (Nat.le_trans B3.size b4.size))
  have hm5 := readere_any b W5 (by omega)
  clear b4 b5 B3 hm4
  go_wp2_with fail
  refine hm5.mono ?_
  rintro e w6 ⟨b6, op6, st6, ka6, m6, c6, pl6, rfl⟩
  rw [HEB.out]
  obtain ⟨W7, hW7⟩ : ∃ W7, w6.alloc (.cells #[.int .i64 op6, .string st6, .slice ka6 m6 c6] 32) = W7 := ⟨_, rfl⟩
  have b7 : Below w6.heap.size w6 W7 := by rw [← hW7]; exact (FrE.alloc w6.heap.size _ _).below (Nat.le_refl _)
  have B7 : Below w.heap.size w W7 := (B5.trans (below_weaken b6 B5.size)).trans (below_weaken b7 (Nat.le_trans B5.size b6.size))
  clear b6 b7 B5 hm5
  have hn1 := num_any EA W7
  have hn2 := num_any EB W7
  go_wp2_with fail
  refine hn1.mono ?_
  rintro e w8 ⟨rfl, hw⟩
  rw [hw]
  clear hw w8 hn1
  go_wp2_with fail
  refine hn2.mono ?_
  rintro e w8 ⟨rfl, hw⟩
  rw [hw]
  clear hw w8 hn2
  obtain ⟨sE, hsE⟩ : ∃ s : ByteArray, a ++ ⟨#[124]⟩ ++ b = s := ⟨_, rfl⟩
  obtain ⟨sB, hsB⟩ : ∃ s : ByteArray, ⟨#[40]⟩ ++ a ++ ⟨#[41, 40]⟩ ++ b ++ ⟨#[41]⟩ = s := ⟨_, rfl⟩
  have lE : sE.data.toList = a.data.toList ++ 124 :: b.data.toList := by rw [← hsE]; simp [ByteArray.data_append]
  have lB : sB.data.toList = 40 :: a.data.toList ++ 41 :: 40 :: b.data.toList ++ [41] := by rw [← hsB]; simp [ByteArray.data_append]
  have zE : sE.size ≤ 600000000000000 := by rw [← hsE]; simp only [ByteArray.size_append]; show a.size + 1 + b.size ≤ _; omega
  have zB : sB.size ≤ 600000000000000 := by rw [← hsB]; simp only [ByteArray.size_append]; show 1 + a.size + 2 + b.size + 1 ≤ _; omega
  obtain ⟨EE, hEE⟩ : ∃ E : Int, (ereErr (readD sE.data.toList) : Int) = E := ⟨_, rfl⟩
  obtain ⟨EC, hEC⟩ : ∃ E : Int, (ereErr (readD sB.data.toList) : Int) = E := ⟨_, rfl⟩
  have HEE := hide hEE
  have HEC := hide hEC
  have HL := hide (⟨lE, lB⟩ : _ ∧ _)
  clear hEE hEC lE lB
  have hm8 := readere_any sE W7 (by omega)
  go_wp2_with fail
  refine hm8.mono ?_
  rintro e w8 ⟨b8, op8, st8, ka8, m8, c8, pl8, rfl⟩
  rw [HEE.out]
  obtain ⟨W9, hW9⟩ : ∃ W9, w8.alloc (.cells #[.int .i64 op8, .string st8, .slice ka8 m8 c8] 32) = W9 := ⟨_, rfl⟩
  have b9 : Below w8.heap.size w8 W9 := by rw [← hW9]; exact (FrE.alloc w8.heap.size _ _).below (Nat.le_refl _)
  have B9 : Below w.heap.size w W9 := (B7.trans (below_weaken b8 B7.size)).trans (below_weaken b9 (Nat.le_trans B7.size b8.size))
  clear b8 b9 B7 hm8
  have hm9 := readere_any sB W9 (by omega)
  clear hsB hsE
  go_wp2_with fail
  refine hm9.mono ?_
  rintro e wa ⟨ba, opa, sta, kaa, ma, ca, pla, rfl⟩
  rw [HEC.out]
  obtain ⟨Wb, hWb⟩ : ∃ Wb, wa.alloc (.cells #[.int .i64 opa, .string sta, .slice kaa ma ca] 32) = Wb := ⟨_, rfl⟩
  have bb : Below wa.heap.size wa Wb := by rw [← hWb]; exact (FrE.alloc wa.heap.size _ _).below (Nat.le_refl _)
  have Bb : Below w.heap.size w Wb := (B9.trans (below_weaken ba B9.size)).trans (below_weaken bb (Nat.le_trans B9.size ba.size))
  clear ba bb B9 hm9
  have HB := hide Bb
  clear Bb
  by_cases hA0 : EA = 0
  · have hAb : (EA != 0) = false := by rw [hA0]; rfl
    have HA0 := hide hA0
    clear hA0
    by_cases hB0 : EB = 0
    · have hBb : (EB != 0) = false := by rw [hB0]; rfl
      have HB0 := hide hB0
      clear hB0
      cases p <;> cases q <;> cases r
      all_goals (
        by_cases hE0 : EE = 0
        · have hEb : (EE == 0) = true := by rw [hE0]; rfl
          have HE0 := hide hE0
          clear hE0
          have hma := ematch_any sE s Wb (HG.out.below HB.out) (by omega) (by omega)
          rw [HEE.out, HE0.out] at hma
          go_wp2_with fail
          refine hma.mono ?_
          rintro e wc ⟨⟨m, rfl, hm⟩, bc⟩
          have HBc := hide (HB.out.trans (below_weaken bc HB.out.size))
          have hmm := mat_either (by rw [HEA.out]; exact HA0.out) (by rw [HEB.out]; exact HB0.out) (by rw [← HL.out.1, HEE.out]; exact HE0.out) HP.out HQ.out (by rw [← HL.out.1]; exact hm)
          simp only [Bool.or_true, Bool.or_false, Bool.or_self] at hmm
          subst hmm
          have hnum := num_any 0 wc
          clear hm bc hma
          go_wp2_with fail
          refine hnum.mono ?_
          rintro e we ⟨rfl, hw⟩
          rw [hw]
          clear hw we hnum
          by_cases hC0 : EC = 0
          · have hCb : (EC != 0) = false := by rw [hC0]; rfl
            have HC0 := hide hC0
            clear hC0
            have hmb := ematch_any sB (s ++ t) wc (HG.out.below HBc.out) (by omega) (by rw [ByteArray.size_append]; omega)
            rw [HEC.out, HC0.out] at hmb
            go_wp2_with fail
            refine hmb.mono ?_
            rintro e wd ⟨⟨n, rfl, hn⟩, bd⟩
            have HBd := hide (HBc.out.trans (below_weaken bd HBc.out.size))
            have hfin := mat_both (by rw [HEA.out]; exact HA0.out) (by rw [HEB.out]; exact HB0.out) (by rw [← HL.out.2, HEC.out]; exact HC0.out) HP.out HR.out (by rw [← HL.out.2]; rw [ByteArray.data_append, Array.toList_append] at hn; exact hn)
            have hnum := num_any 0 wd
            clear hn bd hmb
            go_wp2_with fail
            refine hnum.mono ?_
            rintro e we ⟨rfl, hw⟩
            rw [hw]
            clear hw we hnum
            cases n <;> first | (exfalso; revert hfin; decide) | skip
            all_goals (clear hfin; go_wp2; exact bodyPost_ret (v := .bool true) (by simp [results, Tryz.results4, go_sem]) rfl ⟨rfl, HBd.out⟩)
          · have hCb : (EC != 0) = true := by rw [bne_iff_ne]; exact hC0
            clear hC0
            go_wp2
            exact bodyPost_ret (v := .bool true) (by simp [results, Tryz.results4, go_sem]) rfl ⟨rfl, HBc.out⟩
        · have hEb : (EE == 0) = false := by rw [beq_eq_false_iff_ne]; exact hE0
          clear hE0
          by_cases hC0 : EC = 0
          · have hCb : (EC != 0) = false := by rw [hC0]; rfl
            have HC0 := hide hC0
            clear hC0
            have hmb := ematch_any sB (s ++ t) Wb (HG.out.below HB.out) (by omega) (by rw [ByteArray.size_append]; omega)
            rw [HEC.out, HC0.out] at hmb
            go_wp2_with fail
            refine hmb.mono ?_
            rintro e wd ⟨⟨n, rfl, hn⟩, bd⟩
            have HBd := hide (HB.out.trans (below_weaken bd HB.out.size))
            have hfin := mat_both (by rw [HEA.out]; exact HA0.out) (by rw [HEB.out]; exact HB0.out) (by rw [← HL.out.2, HEC.out]; exact HC0.out) HP.out HR.out (by rw [← HL.out.2]; rw [ByteArray.data_append, Array.toList_append] at hn; exact hn)
            have hnum := num_any 0 wd
            clear hn bd hmb
            go_wp2_with fail
            refine hnum.mono ?_
            rintro e we ⟨rfl, hw⟩
            rw [hw]
            clear hw we hnum
            cases n <;> first | (exfalso; revert hfin; decide) | skip
            all_goals (clear hfin; go_wp2; exact bodyPost_ret (v := .bool true) (by simp [results, Tryz.results4, go_sem]) rfl ⟨rfl, HBd.out⟩)
          · have hCb : (EC != 0) = true := by rw [bne_iff_ne]; exact hC0
            clear hC0
            go_wp2
            exact bodyPost_ret (v := .bool true) (by simp [results, Tryz.results4, go_sem]) rfl ⟨rfl, HB.out⟩)
    · have hBb : (EB != 0) = true := by rw [bne_iff_ne]; exact hB0
      clear hB0
      go_wp2
      exact bodyPost_ret (v := .bool true) (by simp [results, Tryz.results4, go_sem]) rfl ⟨rfl, HB.out⟩
  · have hAb : (EA != 0) = true := by rw [bne_iff_ne]; exact hA0
    clear hA0
    go_wp2
    exact bodyPost_ret (v := .bool true) (by simp [results, Tryz.results4, go_sem]) rfl ⟨rfl, HB.out⟩
end Go.Proofs.YtdlljlmgoiobpaaGreatDoor
