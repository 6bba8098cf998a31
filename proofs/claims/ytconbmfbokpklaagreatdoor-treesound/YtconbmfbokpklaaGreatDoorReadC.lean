/- A line read: its names are none, its fields are right. -/
import Derived.Test.YtconbmfbokpklaaGreatDoorReadM
namespace Go.Proofs.YtconbmfbokpklaaGreatDoor
open Go.RowKit Go.Maps


set_option maxHeartbeats 0 in
set_option maxRecDepth 100000 in
theorem readC {C : Nat} {A : Ads} (c bm br : Nat) (nv : Value) (line : ByteArray) (w : World) (hb : BoxB w c nv bm br) (hrd : w.ownsMap Tryz.prog 9 fnElem br 5 rdD) (hs : Sent C A w) (hC : C ≤ w.heap.size) (hline : line.size ≤ 20000) (key way : ByteArray) (ys : List ByteArray) (f : Nat) (e1 : cutS 9 line = key :: way :: ys) (ek : kfn key.data.toList = some f)
    (ho1 : (cutS 47 way).all nameOk = false) (ho2 : (fieldsD (headI key) ys).isSome = true) : Calls Tryz.prog 37 #[.pointer (some ⟨c, 0, none⟩), .string line] w (RLPost A (lineD line) line.size w) := by
  obtain ⟨W0, hW0⟩ : ∃ W0, w.alloc zeroO = W0 := ⟨_, rfl⟩
  have hal : Below w.heap.size w W0 := by rw [← hW0]; exact (Below.refl _ _).alloc (Nat.le_refl _) _
  have hr0 : W0.heap[w.heap.size]? = some zeroO := by rw [← hW0]; exact alloc_self w zeroO
  have hs0 : w.heap.size < W0.heap.size := (Array.getElem?_eq_some_iff.1 hr0).1
  unfold zeroO at hW0 hr0
  have HS := hide hs
  have HSP := hide (split_c line 9 W0 (by omega))
  have hcl : c < w.heap.size := (Array.getElem?_eq_some_iff.1 hb).1
  have hbrl := hrd.lt
  have hlen : (cutS 9 line).length ≤ 20001 := Nat.le_trans (cutS_length 9 line) (by omega)
  have hpc := cutS_le 9 line
  go_enter Tryz.func37, Tryz.ntmps37
  go_wp2_with fail
  refine (unhide HSP).mono ?_
  rintro e w1 ⟨v, rfl, hown, hb01⟩
  have hb1 : Below w.heap.size w w1 := hal.trans (hb01.mono (by omega))
  have hr1 : w1.heap[w.heap.size]? = _ := (hb01.block _ hs0).trans hr0
  have hb1' : BoxB w1 c nv bm br := (hb1.block c hcl).trans hb
  have hrd1 := map_same hrd (hb1.block br hbrl)
  have hs1 := hs.below (hb1.mono hC)
  have hC1 : C ≤ w1.heap.size := Nat.le_trans hC hb1.size
  obtain ⟨b0, b1, b2, bf⟩ := hb1'.cells
  clear hs
  rw [e1] at hown hlen
  simp only [List.length_cons, List.map_cons] at hown hlen
  obtain ⟨g, cap, rfl⟩ := ownsRow_succ hown
  have hcap := row_cap hown
  have hgl := hown.lt g rfl
  have hkey : w1.cell? ⟨g, 0, none⟩ = some (.string key) := own_cells hown rfl
  have hks : key.size ≤ 20000 := Nat.le_trans (hpc key (by rw [e1]; simp)) hline
  have hlook : ∀ n, (Instr.lookup 52 (.map (some br)) (.string key) true).run Tryz.prog (w1.drewN n) = .ok (.tuple #[fnV (kfn key.data.toList), .bool (kfn key.data.toList).isSome]) (w1.drewN n) := fun n => rd_look (show (w1.drewN n).ownsMap _ _ _ _ _ _ from hrd1) key (by unfold maxLen; omega)
  simp only [ek, fnV, Option.isSome] at hlook
  have hway : w1.cell? ⟨g, 1, none⟩ = some (.string way) := own_cells hown rfl
  have hws : way.size ≤ line.size := hpc way (by rw [e1]; simp)
  have HYS : Hid (∀ y ∈ ys, y.size ≤ 100000) := fun y hy => Nat.le_trans (hpc y (by rw [e1]; simp [hy])) (by omega)
  obtain ⟨off, hif, hoff⟩ : ∃ off, (if cap = 2 then (some ⟨g, 0, none⟩ : Option Addr) else some ⟨g, 2, none⟩) = some ⟨g, off, none⟩ ∧ (off = 2 ∨ ys = []) := by
    by_cases hc2 : cap = 2
    · exact ⟨0, by rw [if_pos hc2], .inr (List.eq_nil_of_length_eq_zero (by omega))⟩
    · exact ⟨2, by rw [if_neg hc2], .inl rfl⟩
  have HX : Hid (HasStrs w1 g off ys) := by
    intro j x hj
    rcases hoff with rfl | rfl
    · exact own_cells hown (by rw [show (2 + j) = (j + 1) + 1 from by omega, List.getElem?_cons_succ, List.getElem?_cons_succ, List.getElem?_map, hj]; rfl)
    · cases hj
  clear hoff
  have hl2 : ¬ ((ys.length + 1 + 1 : Nat) : Int) < 2 := by omega
  have HS1 := hide hs1
  have HE1 := hide e1
  have HEK := hide ek
  have HO1 := hide ho1
  have HO2 := hide ho2
  clear ek e1 hown hb hb1' hs1 hrd hrd1 HSP hpc bf ho1 ho2
  go_wp2
  go_quiet (fail)
  obtain ⟨W2, hW2⟩ : ∃ W2, w1.drewN nq = W2 := ⟨_, rfl⟩
  rw [hW2]
  have hd2 : Below w1.heap.size w1 W2 := by rw [← hW2]; exact below_drewN (Below.refl _ _) nq
  have hr2 : W2.heap[w.heap.size]? = _ := (hd2.block _ (by have := hb01.size; omega)).trans hr1
  have hway2 : W2.cell? ⟨g, 1, none⟩ = some (.string way) := by rw [← hW2]; exact hway
  have HB2 : Hid (Below w.heap.size w W2) := hb1.trans (hd2.mono hb1.size)
  obtain ⟨W3, hW3⟩ : ∃ W3, (W2.alloc zeroO).drew = W3 := ⟨_, rfl⟩
  have hb23 : Below W2.heap.size W2 W3 := by rw [← hW3]; exact ((Below.refl _ _).alloc (Nat.le_refl _) _).drew
  have hbz3 : BoxZ W3 W2.heap.size := by rw [← hW3]; exact alloc_self W2 zeroO
  have hsz3 : W2.heap.size < W3.heap.size := hbz3.lt
  have hs12 := hd2.size
  have hC2 : C ≤ W2.heap.size := by omega
  have HS3 : Hid (Sent C A W3) := ((unhide HS1).below (hd2.mono hC1)).below (hb23.mono hC2)
  have HCN := hide (checkNames_any (A := A) way (by omega) W3 (unhide HS3) (by omega))
  rw [HO1.out] at HCN
  have HC2 : Hid (Calls Tryz.prog 69 #[.string way] W3 fun e w' => e = .returned (eV A false) ∧ Below W3.heap.size W3 w') := by
    refine (unhide HCN).mono ?_
    rintro e w' ⟨rfl, h⟩
    exact ⟨by rw [eV_errT], h⟩
  have HX3 : Hid (HasStrs W3 g off ys) := fun j x hj => (hb23.cell (p := ⟨g, off + j, none⟩) (by show g < _; omega)).trans ((hd2.cell (p := ⟨g, off + j, none⟩) (by show g < _; omega)).trans ((unhide HX) j x hj))
  have hr3 : W3.heap[w.heap.size]? = _ := (hb23.block _ (by have := hb1.size; have := hb01.size; omega)).trans hr2
  have HRD : Hid (∀ w4, Below W3.heap.size W3 w4 → Calls Tryz.prog f #[.pointer (some ⟨W2.heap.size, 0, none⟩), .slice (some ⟨g, off, none⟩) ys.length (cap - 2)] w4 (RdPost A W2.heap.size (fieldsD (headI key) ys) w4)) := fun w4 h4 =>
    reader_any key f HEK.out W2.heap.size g off (cap - 2) ys w4 (hbz3.below h4 hsz3) ((unhide HS3).below (h4.mono (by omega))) (by have := h4.size; omega) hC2 (by omega) (fun j x hj => (h4.cell (p := ⟨g, off + j, none⟩) (by show g < _; omega)).trans ((unhide HX3) j x hj)) HYS.out (by omega) (by omega)
  have HRD2 : Hid (∀ w4, Below W3.heap.size W3 w4 → Calls Tryz.prog f #[.pointer (some ⟨W2.heap.size, 0, none⟩), .slice (some ⟨g, off, none⟩) ys.length (cap - 2)] w4 (RYes W2.heap.size (fieldsD (headI key) ys) w4)) := fun w4 h4 => ((unhide HRD) w4 h4).mono fun e w' h => (rd_cases h).1 HO2.out
  have HJ : Hid (∀ w5, Sent C A w5 → OErr w5 (.nilIface, []) → Calls Tryz.prog 39 #[.slice (some ⟨w5.heap.size, 0, none⟩) 2 2] (w5.alloc (.cells #[eV A false, .nilIface] 48)) (fun e w' => ∃ v, e = .returned v ∧ JHas (errT A false) (.nilIface, []) w5 v w')) := by
    intro w5 h5 ho
    have := join2 (errT A false) (.nilIface, []) w5 (errT_O h5 _) ho
    rw [eV_errT] at this
    exact this
  simp only [eV] at HC2 HJ
  clear HRD HCN
  have HR3 := hide hr3
  have HB3 : Hid (Below w.heap.size w W3) := (unhide HB2).trans (hb23.mono (by have := (unhide HB2).size; omega))
  have hw3 : w.heap.size < W2.heap.size := by have := hb1.size; have := hb01.size; omega
  unfold zeroO at hW3
  have i1 : (2 : Int) ≤ ((ys.length + 1 + 1 : Nat) : Int) := by omega
  have i2 : ((ys.length + 1 + 1 : Nat) : Int) ≤ (cap : Int) := by omega
  clear hlook hd2 hb1 hb01 hal hr0 hr1 hr2 hW2 hW0 hkey b0 b1 b2 HS1 HX hway hbz3 hr3
  have hfc : f = 66 ∨ f = 65 ∨ f = 64 ∨ f = 63 ∨ f = 62 := by rcases kfn_head HEK.out with ⟨_, h⟩ | ⟨_, h⟩ | ⟨_, h⟩ | ⟨_, h⟩ | ⟨_, h⟩ <;> simp [h]
  clear HEK
  go_wp2
  rcases hfc with rfl | rfl | rfl | rfl | rfl
  all_goals
    go_region_with (first | (go_at_call 69; refine (unhide HC2).mono ?_; rintro e w4 ⟨rfl, h4⟩) | ((first | go_at_call 62 | go_at_call 63 | go_at_call 64 | go_at_call 65 | go_at_call 66); refine ((unhide HRD2) w4 h4).mono ?_; rintro e w5 ⟨rfl, k, sz, tm, tx, hbx5, hr5, hg5⟩; have hs5 : Sent C A w5 := ((unhide HS3).below (h4.mono (by omega))).grown hg5 hC2 (by have := h4.size; omega)) | (go_at_call 39; refine ((unhide HJ) w5 hs5 (.inl rfl)).mono ?_; rintro e w6 ⟨v, rfl, hjh⟩))
  all_goals
    obtain ⟨x, hxv, hxo, hx2, hxn, hb6⟩ := hjh
    have hbx6 := hbx5.below hb6 hbx5.lt
    have q4 := h4.size
    have q5 := hg5.size
    have hr6 : w6.heap[w.heap.size]? = _ := (hb6.block _ (by omega)).trans ((hg5.block _ (by omega) (by simp; omega)).trans ((h4.block _ (by omega)).trans HR3.out))
    have b34 : Below w.heap.size w w4 := (unhide HB3).trans (h4.mono (by omega))
    have HB6 : Hid (Below w.heap.size w w6) := (b34.grown hg5 b34.size (fun j e => by cases e; omega)).trans (hb6.mono (by omega))
    have H33 : Hid (Is33 w6 w.heap.size) := ⟨_, hr6⟩
    obtain ⟨n0, n1, n2, n3, n4, n5, n6, _⟩ := hbx6.cells
    obtain ⟨r0, r1, r2, r3, r4, r5, r6, rf⟩ := box_cells33 hr6
    have rf0 := rf 0; have rf1 := rf 1; have rf2 := rf 2; have rf3 := rf 3; have rf4 := rf 4; have rf5 := rf 5; have rf6 := rf 6
    have HRF := hide hr5
    have HXV := hide hxv
    have HXO := hide hxo
    have HX2 := hide hx2
    have HXN := hide hxn
    clear hxv hxo hx2 hxn hb6 hbx6 hr6 b34 hbx5 hg5 h4 hs5 rf hif hW3 hway2 HC2 HRD2 HJ HX3 HS3 HB3 HR3 HYS hr5
    go_wp2
    refine bodyPost_ret (v := .tuple #[.agg #[.int .u8 k, .string (bs []), .int .i64 0, .int .i64 sz, .int .i64 tm, .string tx, .slice none 0 0], .string way, v]) (by simp [results, Tryz.results37, go_sem, r0, r1, r2, r3, r4, r5, r6]) rfl ?_
    exact rl_fin HXV.out (.inl rfl) (unhide HXO) (by rw [lineD_no HE1.out (.inl HO1.out)]; exact text_err HX2.out HXN.out (.inr ⟨rfl, rfl⟩)) hws (unhide HB6) (unhide H33)
end Go.Proofs.YtconbmfbokpklaaGreatDoor
