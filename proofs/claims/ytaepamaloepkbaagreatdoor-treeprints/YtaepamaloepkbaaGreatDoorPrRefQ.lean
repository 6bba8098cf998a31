/- The reference's Print: the walk. -/
import Derived.Test.YtaepamaloepkbaaGreatDoorPrRefP
namespace Go.Proofs.YtaepamaloepkbaaGreatDoor
open Go.RowKit
set_option maxRecDepth 100000 in
set_option maxHeartbeats 4000000 in
theorem refprint_any (C : Nat) (v : Value) (L : List NodeD) (K : List ByteArray) (w : World) (hok : PrOk L K) (hrow : NodeRow C w v L) (hC : C ≤ w.heap.size) :
    Calls Tryz.prog 15 #[v] w fun e w' => e = .returned (.string (bs (printD L K))) ∧ Below w.heap.size w w' := by
  obtain ⟨a, cap, rfl⟩ := hrow.form
  have hlen := hok.len
  have HROW := hide hrow
  have HOK := hide hok
  clear hrow hok
  go_enter Tryz.func15, Tryz.ntmps15
  go_wp2
  go_loopw [3, 4] (fun ov iv wr => ∃ i : Nat, 1 ≤ i ∧ (i ≤ L.length ∨ i = 1) ∧ iv = .int .i64 i ∧ ov = .string (bs (printL ((pairsL L K).take (i - 1)))) ∧ Below w.heap.size w wr) (fun _ iv _ => L.length + 1 - (intOf iv).toNat)
  case atStart => exact ⟨1, Nat.le_refl _, .inr rfl, rfl, rfl, Below.refl _ _⟩
  case round =>
    obtain ⟨i, hi1, hi2, rfl, rfl, hbr⟩ := hrel
    by_cases hlt : i < L.length
    · obtain ⟨x, hx⟩ : ∃ x, L[i]? = some x := ⟨_, List.getElem?_eq_getElem hlt⟩
      obtain ⟨way, hway⟩ : ∃ way, K[i]? = some way := ⟨_, List.getElem?_eq_getElem (by rw [HOK.out.path.len]; exact hlt)⟩
      have hfld := HOK.out.fld i x (by omega) hx
      have htx := HOK.out.text i x hx
      have hwz := HOK.out.way i way hway
      have hnum := fld_nums hfld htx
      have hkd := kind_ok hfld
      obtain ⟨ga, ka, km, kc, rfl, hga, hca, ⟨p0, p1, p2, p3, p4, p5, p6⟩, _⟩ := (HROW.out.below (hbr.mono hC)).at hx
      have hsz := hbr.size
      have hil : (i : Int) < (L.length : Int) := by omega
      obtain ⟨oo, hoo⟩ : ∃ oo, bs (printL ((pairsL L K).take (i - 1))) = oo := ⟨_, rfl⟩
      have hos : oo.size ≤ 160005 * 200 := by
        rw [← hoo, ← len_data, data_bs]
        refine Nat.le_trans (print_len HOK.out (i - 1) (by omega)) (Nat.mul_le_mul_left _ (by omega))
      have HSTEP : Hid (bs (printL ((pairsL L K).take i)) = oo ++ bs (lineL x way.data.toList) ++ bs [10]) := by
        unfold Hid
        rw [print_step hi1 hx hway, ← hoo, ← List.append_assoc, ← bs_app, ← bs_app]
      rw [hoo]
      clear hoo
      have HWY : ∀ W, Hid (Below w.heap.size w W → Calls Tryz.prog 14 #[.slice (some ⟨ga, 0, none⟩) L.length cap, .int .i64 (i : Int)] W fun e w' => e = .returned (.string way) ∧ w' = W) := fun W hb => refway_any C _ L K i way W HOK.out.path hlen (by omega) hlt hway (HROW.out.below (hb.mono hC))
      clear hx hway
      obtain ⟨W1, hW1⟩ : ∃ W1, wr.alloc (.cells #[.int .u8 x.kind, .string x.name, .int .i64 x.up, .int .i64 x.size, .int .i64 x.time, .string x.text, .slice ka km kc] 42) = W1 := ⟨_, rfl⟩
      have hb1 : Below w.heap.size w W1 := by rw [← hW1]; exact hbr.alloc hsz _
      have hz1 : W1.heap.size = wr.heap.size + 1 := by rw [← hW1]; simp
      have hbx : W1.heap[wr.heap.size]? = some (.cells #[.int .u8 x.kind, .string x.name, .int .i64 x.up, .int .i64 x.size, .int .i64 x.time, .string x.text, .slice ka km kc] 42) := by rw [← hW1]; exact World.alloc_heap_new _ _
      have HB1 := hide hb1
      have HZ1 := hide hz1
      have HBX := hide hbx
      have HW1 := hide hW1
      obtain ⟨b0, b1, b2, b3, b4, b5, b6⟩ := box7 hbx
      have HS := hide (shown_any x.text W1 (by omega))
      clear hb1 hz1 hbx hW1 hbr
      go_wp2_with fail
      rw [HW1.out]
      refine ((unhide (HWY W1)) HB1.out).mono ?_
      rintro e ww ⟨rfl, hww⟩
      rw [hww]; clear hww
      go_wp2_with fail
      refine (unhide HS).mono ?_
      rintro e w2 ⟨rfl, hb2⟩
      have hz2 := hb2.size
      obtain ⟨tt, htt⟩ : ∃ tt, tt = bs (escL x.text.data.toList) := ⟨_, rfl⟩
      rw [← htt]
      have HTT := hide htt
      have hts : tt.size ≤ 40000 := by
        rw [htt, ← len_data, data_bs]
        have := esc_len x.text.data.toList
        rw [len_data] at this
        omega
      have hbx2 : w2.heap[wr.heap.size]? = _ := (hb2.block wr.heap.size (by rw [HZ1.out]; omega)).trans HBX.out
      obtain ⟨c0, c1, c2, c3, c4, c5, c6⟩ := box7 hbx2
      have HB2 := hide (HB1.out.trans (hb2.mono HB1.out.size))
      have HBX2 := hide hbx2
      have HZ2 : Hid (wr.heap.size < w2.heap.size) := by have := HZ1.out; unfold Hid; omega
      have HDS : Hid (Calls Tryz.prog 33 #[.int .i64 x.size] w2 fun e w' => e = .returned (.string (bs (decI x.size))) ∧ Below w2.heap.size w2 w') := by
        have := decimal_any x.size.toNat w2 (by have := hnum.2.1; have h2 : (fldOf x).2.1 = x.size := rfl; omega)
        rw [show ((x.size.toNat : Nat) : Int) = x.size from by have := hnum.1; have h2 : (fldOf x).2.1 = x.size := rfl; omega] at this
        exact this
      clear htt hb2 hbx2 b0 b1 b2 b3 b4 b5 b6 hz2
      go_wp2_with fail
      refine (unhide HDS).mono ?_
      rintro e w3 ⟨rfl, hb3⟩
      obtain ⟨ss, hss⟩ : ∃ ss, ss = bs (decI x.size) := ⟨_, rfl⟩
      rw [← hss]
      have HSS := hide hss
      have hsss : ss.size ≤ 9 := by rw [hss, ← len_data, data_bs]; exact dec_le _ hnum.2.1
      have hbx3 : w3.heap[wr.heap.size]? = _ := (hb3.block wr.heap.size HZ2.out).trans HBX2.out
      obtain ⟨d0, d1, d2, d3, d4, d5, d6⟩ := box7 hbx3
      have HB3 := hide (HB2.out.trans (hb3.mono HB2.out.size))
      have HBX3 := hide hbx3
      have HZ3 : Hid (wr.heap.size < w3.heap.size) := by have := HZ2.out; have := hb3.size; unfold Hid; omega
      have HDT : Hid (Calls Tryz.prog 33 #[.int .i64 x.time] w3 fun e w' => e = .returned (.string (bs (decI x.time))) ∧ Below w3.heap.size w3 w') := by
        have := decimal_any x.time.toNat w3 (by have := hnum.2.2.2; have h2 : (fldOf x).2.2.1 = x.time := rfl; omega)
        rw [show ((x.time.toNat : Nat) : Int) = x.time from by have := hnum.2.2.1; have h2 : (fldOf x).2.2.1 = x.time := rfl; omega] at this
        exact this
      clear hss hb3 hbx3 c0 c1 c2 c3 c4 c5 c6
      go_wp2_with fail
      refine (unhide HDT).mono ?_
      rintro e w4 ⟨rfl, hb4⟩
      obtain ⟨mm, hmm⟩ : ∃ mm, mm = bs (decI x.time) := ⟨_, rfl⟩
      rw [← hmm]
      have HMM := hide hmm
      have hmms : mm.size ≤ 9 := by rw [hmm, ← len_data, data_bs]; exact dec_le _ hnum.2.2.2
      have hbx4 : w4.heap[wr.heap.size]? = _ := (hb4.block wr.heap.size HZ3.out).trans HBX3.out
      obtain ⟨e0, e1, e2, e3, e4, e5, e6⟩ := box7 hbx4
      have HB4 := hide (HB3.out.trans (hb4.mono HB3.out.size))
      have HZ4 : Hid (wr.heap.size < w4.heap.size) := by have := HZ3.out; have := hb4.size; unfold Hid; omega
      obtain ⟨qq, W5, hqq, hcv, hbx5, hbl5⟩ : ∃ qq W5, Hid (qq = bs [UInt8.ofNat x.kind.toNat]) ∧ (convert 63 9 (.slice (some ⟨w4.heap.size, 0, none⟩) 1 1)).run Tryz.prog (w4.alloc (.cells #[.int .u8 x.kind] 5)) = .ok (.string qq) W5 ∧ W5.heap[wr.heap.size]? = some (.cells #[.int .u8 x.kind, .string x.name, .int .i64 x.up, .int .i64 x.size, .int .i64 x.time, .string x.text, .slice ka km kc] 42) ∧ Hid (Below w.heap.size w W5) :=
        ⟨_, _, rfl, conv_byte w4 x.kind (by omega) (by omega), (((Below.refl w4.heap.size w4).alloc (Nat.le_refl _) _).block wr.heap.size HZ4.out).trans hbx4, HB4.out.alloc HB4.out.size _⟩
      have hqs : qq.size = 1 := by rw [hqq.out]; rfl
      obtain ⟨f0, f1, f2, f3, f4, f5, f6⟩ := box7 hbx5
      clear hmm hb4 hbx4 d0 d1 d2 d3 d4 d5 d6 hbx5
      have HFLD := hide hfld
      have hcase : ((x.kind = 100 ∨ x.kind = 120) ∧ Hid (bs (lineL x way.data.toList) = qq ++ bs [9] ++ way)) ∨ (x.kind = 102 ∧ x.text.toList.isEmpty = false ∧ ((x.text.size : Int) == x.size) = true ∧ Hid (bs (lineL x way.data.toList) = bs [116, 9] ++ way ++ bs [9] ++ mm ++ bs [9] ++ tt)) ∨ (x.kind = 102 ∧ x.text.toList.isEmpty = true ∧ Hid (bs (lineL x way.data.toList) = qq ++ bs [9] ++ way ++ bs [9] ++ ss ++ bs [9] ++ mm)) ∨ (x.kind = 108 ∧ Hid (bs (lineL x way.data.toList) = qq ++ bs [9] ++ way ++ bs [9] ++ tt)) := by
        rcases HFLD.out with ⟨hk, _⟩ | ⟨hk, _, _, h3⟩ | ⟨hk, _⟩
        · exact .inl ⟨hk, by unfold Hid; rw [hqq.out]; exact line_d hk⟩
        · have hk' : x.kind = 102 := hk
          have hq2 : qq = bs [102] := by rw [hqq.out, hk']; rfl
          rcases h3 with ⟨e, _⟩ | ⟨e1, e2⟩
          · have e' : x.text = bs [] := e
            have hnt : ¬ isTx x := fun h => by have := h.1; rw [e'] at this; exact absurd this (by decide)
            exact .inr (.inr (.inl ⟨hk', by rw [e', ByteArray.toList_eq]; rfl, by unfold Hid; rw [hq2, HSS.out, HMM.out]; exact line_f hk' hnt⟩))
          · have e1' : 0 < x.text.size := e1
            have e2' : x.size = (x.text.size : Int) := e2
            exact .inr (.inl ⟨hk', emp_no e1', by rw [e2']; simp, by unfold Hid; rw [HMM.out, HTT.out]; exact line_t hk' ⟨e1', e2'.symm⟩⟩)
        · have hk' : x.kind = 108 := hk
          have hq2 : qq = bs [108] := by rw [hqq.out, hk']; rfl
          exact .inr (.inr (.inr ⟨hk', by unfold Hid; rw [hq2, HTT.out]; exact line_l hk'⟩))
      clear hfld hnum hkd
      rcases hcase with ⟨hk, hln⟩ | ⟨hk, hte, hsze, hln⟩ | ⟨hk, hte, hln⟩ | ⟨hk, hln⟩
      · have k102 : (x.kind == 102) = false := by rw [beq_eq_false_iff_ne]; omega
        have k108 : (x.kind == 108) = false := by rw [beq_eq_false_iff_ne]; omega
        clear hk
        go_wp2
        go_roundw
        case rel => exact ⟨i + 1, by omega, .inl (by omega), by go_num, by rw [show i + 1 - 1 = i from by omega, HSTEP.out, hln.out]; rfl, hbl5.out⟩
        case measure => simp [intOf]; omega
      · have k102 : (x.kind == 102) = true := by rw [beq_iff_eq]; exact hk
        clear hk
        go_wp2
        go_roundw
        case rel => exact ⟨i + 1, by omega, .inl (by omega), by go_num, by rw [show i + 1 - 1 = i from by omega, HSTEP.out, hln.out]; rfl, hbl5.out⟩
        case measure => simp [intOf]; omega
      · have k102 : (x.kind == 102) = true := by rw [beq_iff_eq]; exact hk
        clear hk
        go_wp2
        go_roundw
        case rel => exact ⟨i + 1, by omega, .inl (by omega), by go_num, by rw [show i + 1 - 1 = i from by omega, HSTEP.out, hln.out]; rfl, hbl5.out⟩
        case measure => simp [intOf]; omega
      · have k102 : (x.kind == 102) = false := by rw [beq_eq_false_iff_ne]; omega
        have k108 : (x.kind == 108) = true := by rw [beq_iff_eq]; exact hk
        clear hk
        go_wp2
        go_roundw
        case rel => exact ⟨i + 1, by omega, .inl (by omega), by go_num, by rw [show i + 1 - 1 = i from by omega, HSTEP.out, hln.out]; rfl, hbl5.out⟩
        case measure => simp [intOf]; omega
    · have HX : Hid (bs (printL ((pairsL L K).take (i - 1))) = bs (printD L K)) := by
        unfold Hid
        congr 1
        rcases hi2 with hi2 | rfl
        · obtain rfl : i = L.length := by omega
          exact print_all HOK.out.path.len
        · have e : L.length - 1 = 0 := by omega
          rw [← print_all HOK.out.path.len, e]
      have hnlt : ¬ (i : Int) < (L.length : Int) := by omega
      have HB := hide hbr
      clear hbr
      go_wp2
      go_ret
      exact ⟨ret_str HX.out, HB.out⟩
end Go.Proofs.YtaepamaloepkbaaGreatDoor
