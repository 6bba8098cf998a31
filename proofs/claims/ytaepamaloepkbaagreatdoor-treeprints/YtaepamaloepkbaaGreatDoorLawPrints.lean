/- The walk of TreePrints. -/
import Derived.Test.YtaepamaloepkbaaGreatDoorGTree
import Derived.Test.YtaepamaloepkbaaGreatDoorPrOut
import Derived.Test.YtaepamaloepkbaaGreatDoorPrRefQ
import Derived.Test.YtaepamaloepkbaaGreatDoorCopy
namespace Go.Proofs.YtaepamaloepkbaaGreatDoor
open Go.RowKit Go.Maps

theorem fld_srt {R L : List NodeD} (hs : Srt R L) {i : Nat} {n : NodeD} (hn : L[i]? = some n) : ∃ m, R[i]? = some m ∧ fldOf m = fldOf n := by
  obtain ⟨m, hm, e, _⟩ := hs.back hn
  exact ⟨m, hm, by rw [e]; rfl⟩
theorem line_same {n m : NodeD} (h : fldOf n = fldOf m) (w : List UInt8) : lineL n w = lineL m w := by
  cases n
  cases m
  simp only [fldOf, Prod.mk.injEq] at h
  obtain ⟨rfl, rfl, rfl, rfl⟩ := h
  rfl
theorem print_same {R L : List NodeD} (hs : Srt R L) (K : List ByteArray) : printD L K = printD R K := by
  unfold printD printL
  rw [List.flatMap_def, List.flatMap_def]
  congr 1
  apply List.ext_getElem?
  intro i
  rw [List.getElem?_map, List.getElem?_map, List.getElem?_drop, List.getElem?_drop]
  cases e : (L.zip K)[1 + i]? with
  | none =>
    have : (R.zip K)[1 + i]? = none := by
      rw [List.getElem?_eq_none_iff] at e ⊢
      rw [List.length_zip] at e ⊢
      rw [hs.len] at e
      exact e
    rw [this]
  | some p =>
    obtain ⟨n, k⟩ := p
    rw [List.getElem?_zip_eq_some] at e
    obtain ⟨m, hm, hf⟩ := fld_srt hs e.1
    have : (R.zip K)[1 + i]? = some (m, k) := by rw [List.getElem?_zip_eq_some]; exact ⟨hm, e.2⟩
    rw [this]
    show some (lineL n k.data.toList ++ [10]) = some (lineL m k.data.toList ++ [10])
    rw [line_same hf]
theorem prok_of {R L : List NodeD} {K : List ByteArray} (h : Prints R K) (hs : Srt R L) : PrOk L K := by
  have hp := path_of h.inv hs
  refine ⟨hp, by rw [hs.len]; exact h.inv.lim, fun i n hi hn => ?_, fun i n hn => ?_, fun i w hw => ?_⟩
  · obtain ⟨m, hm, e⟩ := fld_srt hs hn
    rw [← e]
    exact h.fld i m hi hm
  · obtain ⟨m, hm, e⟩ := fld_srt hs hn
    have : n.text = m.text := (congrArg (·.2.2.2) e).symm
    rw [this]
    exact h.inv.text i m hm
  · have hl : i < L.length := by rw [← hp.len]; exact (List.getElem?_eq_some_iff.1 hw).1
    by_cases h0 : i = 0
    · subst h0
      rw [hp.key0] at hw
      cases hw
      show (0 : Nat) ≤ _
      omega
    · obtain ⟨_, _, _, _, _, hz⟩ := way_chain h.inv hs hl (by omega) hw
      have := h.inv.lim
      rw [← hs.len] at this
      omega
set_option maxRecDepth 100000 in
set_option maxHeartbeats 2000000 in
theorem print_empty (a : Option Addr) (cap : Nat) (w : World) : Calls Tryz.prog 12 #[.slice a 0 cap] w fun e w' => e = .returned (.string (bs [])) ∧ Below w.heap.size w w' := by
  go_enter Tryz.func12, Tryz.ntmps12
  go_wp2
  obtain ⟨W0, hW0⟩ : ∃ W0, w.alloc (.cells #[.pointer none, .slice none 0 0] 65) = W0 := ⟨_, rfl⟩
  rw [hW0]
  have hbd0 : Lib.IsBuilder 65 5 w.heap.size w.heap.size (Lib.byteCells []) W0 := by rw [← hW0]; exact builder_new w
  have hbl0 : Below w.heap.size w W0 := by rw [← hW0]; exact (Below.refl _ _).alloc (Nat.le_refl _) _
  clear hW0
  refine wp_loop_rounds 1 ?_
  rw [rounds_succ]
  have HBD := hide hbd0
  have hBs := hbl0.size
  clear hbd0
  go_wp2_with fail
  refine (Tryz.Builder_String_any w.heap.size w.heap.size _ _ (unhide HBD) hBs).mono ?_
  rintro e w2 ⟨rfl, hb2⟩
  have HB2 := hide (hbl0.trans hb2)
  clear hb2
  go_wp2
  go_ret
  exact ⟨rfl, HB2.out⟩
set_option maxRecDepth 100000 in
set_option maxHeartbeats 4000000 in
theorem law_prints {A : Ads} (s : ByteArray) (w : World) (hs : s.size ≤ maxLen) (hS : Sent w.heap.size A w) (hPow : Pow w) (h7 : 7 < w.heap.size) :
    Calls Tryz.prog 4 #[.string s] w fun e w' => e = .returned (.bool true) ∧ Below w.heap.size w w' := by
  have HS := hide hS
  have HPW := hide hPow
  have HLIM := hide (loadD_lim s)
  have HT := hide (loadD_told s)
  have HPR := hide (prints_of s)
  clear hS hPow
  go_enter Tryz.func4, Tryz.ntmps4
  go_wp2_with fail
  refine (refload_any s w hs).mono ?_
  rintro e w1 ⟨u, m, rfl, hown1, hsrt1, hb1⟩
  have HSRT := hide hsrt1
  have HB1 := hide hb1
  have HRM := hide hown1.row
  have hz1 := hb1.size
  have HLS := hide (HLIM.out.1.srt hsrt1)
  clear hown1 hsrt1 hb1
  obtain ⟨L, hL⟩ : ∃ L, m.map (·.1) = L := ⟨_, rfl⟩
  rw [hL] at HSRT HRM HLS
  clear hL
  have hll := HLS.out.1
  generalize (loadD s).2.2 = pl at *
  go_wp2_with fail
  refine (nodes_any w1.heap.size u L w1 hll HLS.out.2 HRM.out (Nat.le_refl _)).mono ?_
  rintro e w2 ⟨v, l, rfl, hown2, hmap2, hb2⟩
  have HRL := hide (show NodeRow w2.heap.size w2 v L from hmap2 ▸ hown2.row)
  have HB2 := hide (HB1.out.trans (hb2.mono hz1))
  have HRM2 := hide (HRM.out.below hb2)
  have hz2 := hb2.size
  clear hown2 hmap2 hb2
  obtain ⟨a, cap, rfl⟩ := HRL.out.form
  obtain ⟨am, capm, rfl⟩ := HRM2.out.form
  rcases HT.out with ⟨h0, _, _⟩ | ⟨hnil, hne⟩
  · obtain ⟨K, hK⟩ := HPR.out h0
    have HPO := hide (prok_of hK HSRT.out)
    have HBK := hide hK.back
    rw [h0]
    clear h0 hK HPR HT HLIM
    have HSAME := hide (print_same HSRT.out K)
    have hpl : (printD L K).length ≤ 160005 * 200 := by
      rw [← print_all HPO.out.path.len]
      exact Nat.le_trans (print_len HPO.out (L.length - 1) (by omega)) (Nat.mul_le_mul_left _ (by omega))
    have HPR := hide (print_any w2.heap.size _ L K w2 HPO.out HRL.out (Nat.le_refl _) (HPW.out.below HB2.out h7) (by have := HB2.out.size; omega))
    go_wp2_with fail
    refine (unhide HPR).mono ?_
    rintro e w3 ⟨rfl, hb3⟩
    obtain ⟨T, hT⟩ : ∃ T, T = bs (printD L K) := ⟨_, rfl⟩
    rw [← hT]
    have HTT := hide hT
    have hTs : T.size ≤ 160005 * 200 := by rw [hT, ← len_data, data_bs]; exact hpl
    have HB3 := hide (HB2.out.trans (hb3.mono (by omega)))
    have HB3' := hide hb3
    have HLD := hide (treeLoad_any T (by unfold maxLen; omega) w3 ((HS.out.below HB3.out).up HB3.out.size))
    have hz3 := hb3.size
    clear hT hb3 hpl
    generalize (loadD s).1 = R at *
    go_wp2_with fail
    refine (unhide HLD).mono ?_
    rintro e w4 ⟨v4, l4, rfl, hown4, hsrt4, hb4⟩
    have HB4 := hide (HB3.out.trans (hb4.mono HB3.out.size))
    have hz4 := hb4.size
    have HB4' := hide hb4
    by_cases hbig : 20000 < T.size
    · have e1 : loadD T = ([], 1, 0) := loadD_big hbig
      rw [e1]
      have hbI : (20000 : Int) < (T.size : Int) := by omega
      have HN := hide (lawnum_any 1 w4 (by omega))
      clear hown4 hsrt4 hb4 e1
      go_wp2_with fail
      refine (unhide HN).mono ?_
      rintro e w5 ⟨rfl, hw5⟩
      rw [hw5]; clear hw5
      go_wp2
      go_ret
      exact ⟨rfl, HB4.out⟩
    · have e1 : loadD T = (R, 0, 0) := by
        rw [HTT.out, HSAME.out]
        refine HBK.out ?_
        rw [← HSAME.out, ← data_bs (printD L K), len_data, ← HTT.out]
        omega
      rw [e1] at hsrt4 ⊢
      have hbI : ¬ (20000 : Int) < (T.size : Int) := by omega
      have heq := hsrt4.uniq HSRT.out
      have HR4 := hide (show NodeRow w4.heap.size w4 v4 L from heq ▸ hown4.row)
      clear hown4 hsrt4 hb4 e1 heq
      have HRL4 := hide (HRL.out.below (HB3'.out.trans (HB4'.out.mono hz3)))
      have HRM4 := hide (HRM2.out.below ((HB3'.out.trans (HB4'.out.mono hz3)).mono hz2))
      have HSN := hide (sameNodes_any w4.heap.size w1.heap.size v4 _ L w4 hll HLS.out.2 HR4.out HRM4.out (Nat.le_refl _) (by omega))
      go_wp2_with fail
      refine (unhide HSN).mono ?_
      rintro e w5 ⟨rfl, hb5⟩
      have hz5 := hb5.size
      have HB5 := hide (HB4.out.trans (hb5.mono HB4.out.size))
      have HB5' := hide hb5
      have HPN := hide (print_any w4.heap.size v4 L K w5 HPO.out (HR4.out.below hb5) (by omega) (HPW.out.below HB5.out h7) (by have := HB4.out.size; omega))
      clear hb5
      go_wp2_with fail
      refine (unhide HPN).mono ?_
      rintro e w6 ⟨rfl, hb6⟩
      rw [← HTT.out]
      have hz6 := hb6.size
      have HB6 := hide (HB5.out.trans (hb6.mono HB5.out.size))
      have HRL6 := hide (HRL4.out.below ((HB5'.out.trans (hb6.mono hz5)).mono (by omega)))
      have HRM6 := hide (HRM4.out.below ((HB5'.out.trans (hb6.mono hz5)).mono (by omega)))
      clear hb6
      go_wp2
      go_loopw [13] (fun iv wr => ∃ i : Int, -1 ≤ i ∧ i ≤ (L.length : Int) + 1 ∧ iv = .int .i64 i ∧ Below w6.heap.size w6 wr) (fun iv _ => ((L.length : Int) + 1 - intOf iv).toNat)
      case atStart => exact ⟨-1, by omega, by omega, rfl, Below.refl _ _⟩
      case round =>
        obtain ⟨i, hi1, hi2, rfl, hbr⟩ := hrel
        have hzr := hbr.size
        by_cases hle : i ≤ (L.length : Int)
        · obtain ⟨wy, hwy⟩ : ∃ wy, Hid ((Calls Tryz.prog 13 #[.slice a L.length cap, .int .i64 i] wr fun e w' => e = .returned (.string wy) ∧ Below wr.heap.size wr w') ∧ ∀ W, Below wr.heap.size wr W → Calls Tryz.prog 14 #[.slice am L.length capm, .int .i64 i] W fun e w' => e = .returned (.string wy) ∧ w' = W) := by
            by_cases hin : 0 < i ∧ i < (L.length : Int)
            · obtain ⟨k, rfl⟩ : ∃ k : Nat, i = (k : Int) := ⟨i.toNat, by omega⟩
              obtain ⟨way, hway⟩ : ∃ way, K[k]? = some way := ⟨_, List.getElem?_eq_getElem (by rw [HPO.out.path.len]; omega)⟩
              refine ⟨way, way_any w2.heap.size _ L K k way wr HPO.out.path hll (by omega) (by omega) hway (by have := HPO.out.way k way hway; omega) (HRL6.out.below (hbr.mono (by omega))) (by omega), fun W hb => refway_any w1.heap.size _ L K k way W HPO.out.path hll (by omega) (by omega) hway (HRM6.out.below ((hbr.trans (hb.mono hzr)).mono (by omega)))⟩
            · refine ⟨⟨#[]⟩, (way_out a L.length cap i wr (by omega)).mono ?_, fun W _ => refway_out am L.length capm i W (by omega)⟩
              rintro e w' ⟨rfl, rfl⟩
              exact ⟨rfl, Below.refl _ _⟩
          have HBR := hide hbr
          clear hbr
          go_wp2_with fail
          refine (unhide hwy).1.mono ?_
          rintro e w7 ⟨rfl, hb7⟩
          have HB7 := hide (HBR.out.trans (hb7.mono hzr))
          have HW7 := hide ((unhide hwy).2 w7 hb7)
          clear hb7
          go_wp2_with fail
          refine (unhide HW7).mono ?_
          rintro e w8 ⟨rfl, hw8⟩
          rw [hw8]; clear hw8
          go_wp2
          go_roundw
          case rel => exact ⟨i + 1, by omega, by omega, rfl, HB7.out⟩
          case measure => simp [intOf]; omega
        · have HSL := hide (sameNodes_any w2.heap.size w1.heap.size _ _ L wr hll HLS.out.2 (HRL6.out.below (hbr.mono (by omega))) (HRM6.out.below (hbr.mono (by omega))) (by omega) (by omega))
          have HBR := hide hbr
          clear hbr
          go_wp2_with fail
          refine (unhide HSL).mono ?_
          rintro e w7 ⟨rfl, hb7⟩
          have HB7 := hide (HBR.out.trans (hb7.mono hzr))
          have HN := hide (lawnum_any 0 w7 (by omega))
          have HRP := hide (refprint_any w1.heap.size _ L K w7 HPO.out (HRM6.out.below ((HB7.out).mono (by omega))) (by have := HB7.out.size; omega))
          clear hb7
          go_wp2_with fail
          refine (unhide HN).mono ?_
          rintro e w8 ⟨rfl, hw8⟩
          rw [hw8]; clear hw8
          go_wp2_with fail
          refine (unhide HRP).mono ?_
          rintro e w9 ⟨rfl, hb9⟩
          rw [← HTT.out]
          have HB9 := hide ((HB6.out.trans (HB7.out.mono HB6.out.size)).trans (hb9.mono (by have := HB6.out.size; have := HB7.out.size; omega)))
          clear hb9
          go_wp2
          go_ret
          exact ⟨rfl, HB9.out⟩
  · have hl0 : L.length = 0 := by
      have := HSRT.out.len
      rw [hnil] at this
      simpa using this
    have herr : (((loadD s).2.1) != 0) = true := by rw [bne_iff_ne]; exact hne
    rw [hl0]
    have HPE := hide (print_empty a cap w2)
    generalize (loadD s).2.1 = er at *
    go_wp2_with fail
    refine (unhide HPE).mono ?_
    rintro e w3 ⟨rfl, hb3⟩
    have HB3 := hide (HB2.out.trans (hb3.mono HB2.out.size))
    have hE : (bs []).toList.isEmpty = true := by rw [ByteArray.toList_eq]; rfl
    clear hb3
    go_wp2
    go_ret
    exact ⟨rfl, HB3.out⟩
end Go.Proofs.YtaepamaloepkbaaGreatDoor
