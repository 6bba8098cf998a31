import Derived.Test.YtfemboojdablhaaGreatDoorMi30
import Derived.Laws.IdiomStrings
import Derived.Laws.BytesArg
import Derived.Test.YtfemboojdablhaaGreatDoorMi24
namespace Go.Proofs.YtfemboojdablhaaGreatDoor.Tre
open Go.RowKit
theorem numJ_no {l : List UInt8} (h : good l = false) : numJ l = -1 := by unfold numJ; rw [h]; rfl
theorem numJ_yes {l : List UInt8} (h : good l = true) : numJ l = dval l := by unfold numJ; rw [h]; rfl
theorem ret1_no {s : ByteArray} (h : good s.data.toList = false) : Ending.returned (.int .i64 (-1)) = .returned (.int .i64 (nJ s)) := by unfold nJ; rw [numJ_no h]
theorem ret1_yes {s : ByteArray} (h : good s.data.toList = true) : Ending.returned (.int .i64 (dval s.data.toList)) = .returned (.int .i64 (nJ s)) := by unfold nJ; rw [numJ_yes h]
theorem isD_no {c : UInt8} (h : (c.toNat : Int) < 48 ∨ 57 < (c.toNat : Int)) : isD c = false := by unfold isD; simp; omega
theorem isD_yes {c : UInt8} (h : 48 ≤ (c.toNat : Int)) (h2 : (c.toNat : Int) ≤ 57) : isD c = true := by unfold isD; simp; omega
theorem take_all (s : ByteArray) : s.data.toList.take s.size = s.data.toList := List.take_of_length_le (by simp)
set_option maxHeartbeats 400000 in
theorem refnum_size (s : ByteArray) (w : World) (hs : s.size ≤ maxLen) (h : s.size = 0 ∨ 9 < s.size) :
    Calls Tryz.prog 58 #[.string s, .int .i64 9] w fun e w' => e = .returned (.int .i64 (nJ s)) ∧ w' = w := by
  unfold maxLen at hs
  have hg : Hid (good s.data.toList = false) := good_no_short s h
  rcases h with h | h
  · have h0 : (s.size : Int) < 1 := by omega
    go_enter Tryz.func58, Tryz.ntmps58
    go_wp2
    go_ret
    exact ⟨ret1_no hg.out, rfl⟩
  · have h0 : ¬ (s.size : Int) < 1 := by omega
    go_enter Tryz.func58, Tryz.ntmps58
    go_wp2
    go_ret
    exact ⟨ret1_no hg.out, rfl⟩
set_option maxHeartbeats 400000 in
theorem refnum_mid (s : ByteArray) (w : World) (h1 : 1 ≤ s.size) (h9 : s.size ≤ 9) :
    Calls Tryz.prog 58 #[.string s, .int .i64 9] w fun e w' => e = .returned (.int .i64 (nJ s)) ∧ w' = w := by
  have h0 : ¬ (s.size : Int) < 1 := by omega
  go_enter Tryz.func58, Tryz.ntmps58
  go_wp2
  go_loop [5, 6] (fun n r => ∃ k : Nat, k ≤ s.size ∧ r = .int .i64 k ∧ (s.data.toList.take k).all isD = true ∧ n = .int .i64 (dval (s.data.toList.take k))) (fun _ r => s.size - (intOf r).toNat)
  case atStart => exact ⟨0, Nat.zero_le _, rfl, rfl, rfl⟩
  case round =>
    obtain ⟨k, hk, rfl, hall, rfl⟩ := hrel
    have hbd := dval_bd _ hall (by simp; omega)
    have HALL : Hid ((s.data.toList.take k).all isD = true) := hall
    clear hall
    by_cases hlt : k < s.size
    · have hts := take_snoc s k hlt
      have HS : Hid (dval (s.data.toList.take (k + 1)) = 10 * dval (s.data.toList.take k) + ((s[k].toNat : Int) - 48)) := by rw [hts]; exact dval_snoc _ _
      have HA : Hid (isD s[k] = true → (s.data.toList.take (k + 1)).all isD = true) := by
        intro hd; rw [hts, List.all_append, HALL.out]; simp [hd]
      have HN : Hid (isD s[k] = false → good s.data.toList = false) := good_no_of s k hlt
      clear hts
      by_cases hlo : (s[k].toNat : Int) < 48
      · go_wp2
        go_ret
        exact ⟨ret1_no (HN.out (isD_no (.inl hlo))), rfl⟩
      · by_cases hhi : 57 < (s[k].toNat : Int)
        · have hdn : decide ((s[k].toNat : Int) ≤ 57) = false := by rw [decide_eq_false_iff_not]; omega
          go_wp2
          go_ret
          exact ⟨ret1_no (HN.out (isD_no (.inr hhi))), rfl⟩
        · have hlo' : 48 ≤ (s[k].toNat : Int) := by omega
          have hhi' : (s[k].toNat : Int) ≤ 57 := by omega
          go_wp2
          go_round
          case rel => exact ⟨k + 1, by omega, by go_num, HA.out (isD_yes hlo' hhi'), by rw [HS.out]; go_num⟩
          case measure => simp [intOf]; omega
    · obtain rfl : k = s.size := by omega
      go_wp2
      go_ret
      rw [take_all] at HALL
      rw [take_all]
      exact ⟨ret1_yes (good_yes s h1 h9 HALL.out), rfl⟩
theorem refnum_any (s : ByteArray) (w : World) (hs : s.size ≤ maxLen) :
    Calls Tryz.prog 58 #[.string s, .int .i64 9] w fun e w' => e = .returned (.int .i64 (nJ s)) ∧ w' = w := by
  by_cases h : s.size = 0 ∨ 9 < s.size
  · exact refnum_size s w hs h
  · exact refnum_mid s w (by omega) (by omega)
theorem ret_b {a b : Bool} (h : a = b) : Ending.returned (.bool a) = .returned (.bool b) := by rw [h]
theorem bad_of {c : UInt8} {n : Nat} (h : ((c.toNat : Int) == (n : Int)) = true) (hn : n = 0 ∨ n = 9 ∨ n = 10) : badB c = true := by
  rw [beq_iff_eq] at h
  unfold badB
  rw [decide_eq_true_eq]
  have e : c.toNat = n := by omega
  rcases hn with rfl | rfl | rfl
  · left; exact UInt8.toNat_inj.1 e
  · right; left; exact UInt8.toNat_inj.1 e
  · right; right; exact UInt8.toNat_inj.1 e
theorem bad_not {c : UInt8} (h0 : ((c.toNat : Int) == 0) = false) (h9 : ((c.toNat : Int) == 9) = false) (h10 : ((c.toNat : Int) == 10) = false) : badB c = false := by
  unfold badB
  rw [decide_eq_false_iff_not]
  rintro (rfl | rfl | rfl)
  · cases h0
  · cases h9
  · cases h10
theorem name_bad {s : ByteArray} {k : Nat} (h : k < s.size) (hb : badB s[k] = true) : nameOk s = false := by
  have hm : s[k] ∈ s.data.toList := by
    have : s.data.toList[k]'(by simpa using h) = s[k] := rfl
    rw [← this]; exact List.getElem_mem _
  unfold nameOk
  have : s.data.toList.all (fun c => !badB c) = false := by
    rw [List.all_eq_false]; exact ⟨_, hm, by simp [hb]⟩
  rw [this, Bool.and_false]
set_option maxHeartbeats 1000000 in
theorem isName_any (s : ByteArray) (w : World) (hs : s.size ≤ 1073741824) :
    Calls Tryz.prog 31 #[.string s] w fun e w' => e = .returned (.bool (nameOk s)) ∧ w' = w := by
  cases e1 : s.toList.isEmpty
  · by_cases e2 : (60 : Int) < (s.size : Int)
    · have HR : Hid (nameOk s = false) := by
        unfold Hid nameOk; rw [show decide (s.size ≤ 60) = false from by rw [decide_eq_false_iff_not]; omega]; simp
      go_enter Tryz.func31, Tryz.ntmps31
      go_wp2
      go_ret
      exact ⟨ret_b HR.out.symm, rfl⟩
    · cases e3 : (s.toList == [46])
      · cases e4 : (s.toList == [46, 46])
        · have HG : Hid (s.data.toList.all (fun c => !badB c) = true → nameOk s = true) := by
            intro h; unfold nameOk; rw [e1, e3, e4, h, show decide (s.size ≤ 60) = true from by rw [decide_eq_true_eq]; omega]; rfl
          go_enter Tryz.func31, Tryz.ntmps31
          go_wp2
          go_loop [3] (fun r => ∃ (k : Nat), k ≤ s.size ∧ r = .int .i64 k ∧ (s.data.toList.take k).all (fun c => !badB c) = true) (fun r => s.size - (intOf r).toNat)
          case atStart => exact ⟨0, Nat.zero_le _, rfl, rfl⟩
          case round =>
            obtain ⟨k, hk, rfl, hall⟩ := hrel
            have HAL := hide hall
            clear hall
            by_cases hlt : k < s.size
            · have HB : Hid (badB s[k] = true → nameOk s = false) := name_bad hlt
              have HN : Hid (badB s[k] = false → (s.data.toList.take (k + 1)).all (fun c => !badB c) = true) := by
                intro h; rw [take_snoc s k hlt, List.all_append, HAL.out]; simp [h]
              cases c0 : ((s[k].toNat : Int) == 0)
              · cases c9 : ((s[k].toNat : Int) == 9)
                · cases c10 : ((s[k].toNat : Int) == 10)
                  · have HX := hide (HN.out (bad_not c0 c9 c10))
                    go_wp2
                    go_round
                    case rel => exact ⟨k + 1, by omega, by go_num, HX.out⟩
                    case measure => simp [intOf]; omega
                  · have HX := hide (HB.out (bad_of (n := 10) c10 (by omega)))
                    go_wp2
                    go_ret
                    exact ⟨ret_b HX.out.symm, rfl⟩
                · have HX := hide (HB.out (bad_of (n := 9) c9 (by omega)))
                  go_wp2
                  go_ret
                  exact ⟨ret_b HX.out.symm, rfl⟩
              · have HX := hide (HB.out (bad_of (n := 0) c0 (by omega)))
                go_wp2
                go_ret
                exact ⟨ret_b HX.out.symm, rfl⟩
            · obtain rfl : k = s.size := by omega
              have HX : Hid (nameOk s = true) := HG.out (by rw [← take_all s]; exact HAL.out)
              go_wp2
              go_ret
              exact ⟨ret_b HX.out.symm, rfl⟩
        · have HR : Hid (nameOk s = false) := by unfold Hid nameOk; rw [e4]; simp
          go_enter Tryz.func31, Tryz.ntmps31
          go_wp2
          go_ret
          exact ⟨ret_b HR.out.symm, rfl⟩
      · have HR : Hid (nameOk s = false) := by unfold Hid nameOk; rw [e3]; simp
        go_enter Tryz.func31, Tryz.ntmps31
        go_wp2
        go_ret
        exact ⟨ret_b HR.out.symm, rfl⟩
  · have HR : Hid (nameOk s = false) := by unfold Hid nameOk; rw [e1]; simp
    go_enter Tryz.func31, Tryz.ntmps31
    go_wp2
    go_ret
    exact ⟨ret_b HR.out.symm, rfl⟩
def u8s (xs : List UInt8) : List Value := xs.map fun (b : UInt8) => Value.int .u8 (b.toNat : Int)
theorem u8s_push {B : Nat} {w1 : World} {v' : Value} {xs : List UInt8} {x : UInt8} (h : w1.ownsRow B 5 1 v' (xs.length + 1) (u8s xs ++ [Value.int .u8 (x.toNat : Int)])) :
    w1.ownsRow B 5 1 v' (xs ++ [x]).length (u8s (xs ++ [x])) := by
  unfold u8s at h ⊢
  rw [List.length_append, List.map_append]; exact h
theorem below_own {B t n : Nat} {w wr w1 : World} {o : Obj} {v : Value} {xs : List Value} (hB : B ≤ wr.heap.size) (hnx : Below B w wr) (hown : wr.ownsRow B t 1 v n xs) (hg : (wr.alloc o).grownBy w1 v.ownBlock) : Below B w w1 :=
  (hnx.alloc hB o).grown hg (by simp; omega) (fun k e => (hown.lt k e).1)
theorem back_any {B : Nat} {W : World} {v : Value} {xs : List UInt8} (h : W.ownsRow B 5 1 v xs.length (u8s xs)) : (convert 87 9 v).run Tryz.prog W = .ok (.string (bs xs)) W := by
  rcases h.2 with ⟨rfl, e⟩ | ⟨g, cap, cur, rfl, hb, hg, hn, _, hs, ht⟩
  · have e2 : xs = [] := List.eq_nil_of_length_eq_zero e
    subst e2
    exact run_convert_bytes_nil W 87 5 Tryz.underlying87 Tryz.underlying5 0 0 9 Tryz.underlying9
  · refine run_convert_bytes_back W 87 9 5 ⟨g, 0, none⟩ cap xs Tryz.underlying87 Tryz.underlying5 Tryz.underlying9 fun j hj => ?_
    have e1 : (cur.toList.take (xs.length * 1))[j]? = some (.int .u8 (xs[j].toNat : Int)) := by rw [ht]; unfold u8s; rw [List.getElem?_map, List.getElem?_eq_getElem hj]; rfl
    rw [List.getElem?_take_of_lt (by omega)] at e1
    rw [addr_add]
    simp only [World.cell?, hg]
    simpa using e1
def FieldPost (r : Option ByteArray) (B : Nat) (w : World) (e : Ending) (w' : World) : Prop := ∃ (t : ByteArray) (b : Bool), e = .returned (.tuple #[.string t, .bool b]) ∧ (r = some t ∧ b = true ∨ r = none ∧ t = bs [] ∧ b = false) ∧ Below B w w'
theorem field_no {r : Option ByteArray} {B : Nat} {w w' : World} (hr : r = none) (h : Below B w w') : FieldPost r B w (.returned (.tuple #[.string ⟨#[]⟩, .bool false])) w' := ⟨bs [], false, rfl, .inr ⟨hr, rfl, rfl⟩, h⟩
theorem byte_is {c : UInt8} {n : Nat} (h : ((c.toNat : Int) == (n : Int)) = true) (hn : n < 256) : c = UInt8.ofNat n := by
  rw [beq_iff_eq] at h
  apply UInt8.toNat_inj.1
  rw [UInt8.toNat_ofNat_of_lt' hn]; omega
theorem byte_not {c : UInt8} {n : Nat} (h : ((c.toNat : Int) == (n : Int)) = false) (hn : n < 256) : ¬ c = UInt8.ofNat n := by
  rw [beq_eq_false_iff_ne] at h
  intro e
  apply h
  rw [e, UInt8.toNat_ofNat_of_lt' hn]
set_option maxRecDepth 100000 in
set_option maxHeartbeats 2000000 in
theorem field_any (s : ByteArray) (w : World) (hs : s.size ≤ 1073741824) :
    Calls Tryz.prog 59 #[.string s] w (FieldPost (textD s) w.heap.size w) := by
  obtain ⟨i0, hi, hz0, hz1, hz2⟩ := info_parts Tryz.info5
  go_enter Tryz.func59, Tryz.ntmps59
  go_wp2
  go_loopw [4, 5] (fun v r wr => ∃ (k : Nat) (xs : List UInt8), k ≤ s.size ∧ xs.length ≤ k ∧ r = .int .i64 k ∧ wr.ownsRow w.heap.size 5 1 v xs.length (u8s xs) ∧ Below w.heap.size w wr ∧ FSt s k xs) (fun _ r _ => s.size - (intOf r).toNat)
  case atStart => exact ⟨0, [], Nat.zero_le _, Nat.le_refl _, rfl, World.ownsRow_nil _ _ _ _, Below.refl _ _, fst_zero s⟩
  case round =>
    obtain ⟨k, xs, hk, hxk, rfl, hown, hnx, hst⟩ := hrel
    have HST := hide hst
    clear hst
    by_cases hlt : k < s.size
    · have HD := hide (drop_get s k hlt)
      have HBAD : Hid ((s[k] = 0 ∨ s[k] = 9 ∨ s[k] = 10) → textD s = none) := by
        intro h; exact fst_none HST.out (by rw [HD.out]; exact field_bad _ h)
      cases c0 : ((s[k].toNat : Int) == 0)
      · cases c9 : ((s[k].toNat : Int) == 9)
        · cases c10 : ((s[k].toNat : Int) == 10)
          · cases c92 : ((s[k].toNat : Int) == 92)
            · have HX : Hid (FSt s (k + 1) (xs ++ [s[k]])) := fst_step HST.out (by rw [HD.out]; exact field_plain _ (byte_not (n := 0) c0 (by omega)) (byte_not (n := 9) c9 (by omega)) (byte_not (n := 10) c10 (by omega)) (byte_not (n := 92) c92 (by omega)))
              go_wp2_with (at_builtin; refine wpList_append_own _ rfl _ _ 87 rfl w.heap.size 5 i0 (.int .u8 0) 1 1 Tryz.underlying87 hi hz0 hz1 hz2 rfl (by decide) _ _ _ rfl (hown.alloc _) ⟨wr.heap.size, 0, none⟩ 1 1 [.int .u8 (s[k].toNat : Int)] rfl rfl (cell_one_new _ _ _) (by simp [Value.oneCell']) (by unfold maxLen; omega) (by omega) (by have := hnx.size; simp; omega) ?_; intro v' w1 hown' hgrow _)
              have HB := below_own hnx.size hnx hown hgrow
              go_roundw
              case rel => exact ⟨k + 1, _, by omega, by simp; omega, by go_num, u8s_push hown', HB, HX.out⟩
              case measure => simp [intOf]; omega
            · have hsk : s[k] = 92 := byte_is (n := 92) c92 (by omega)
              have HSK := hide hsk
              clear hsk
              by_cases he : k + 1 = s.size
              · have hee : ((k : Int) + 1 == (s.size : Int)) = true := by rw [beq_iff_eq]; omega
                have HX : Hid (textD s = none) := fst_none HST.out (by rw [HD.out, HSK.out, List.drop_of_length_le (by simp; omega)]; exact field_end)
                go_wp2
                go_ret2
                exact field_no HX.out hnx
              · have hee : ((k : Int) + 1 == (s.size : Int)) = false := by rw [beq_eq_false_iff_ne]; omega
                have hlt2 : k + 1 < s.size := by omega
                have HD2 : Hid (s.data.toList.drop k = 92 :: s[k + 1] :: s.data.toList.drop (k + 2)) := by
                  unfold Hid; rw [HD.out, HSK.out, drop_get s (k + 1) hlt2]
                have HE : Hid (∀ e, escD s[k + 1] = some e → FSt s (k + 2) (xs ++ [e])) := by
                  intro e h; exact fst_step HST.out (by rw [HD2.out]; exact field_esc _ h)
                cases d92 : ((s[k + 1].toNat : Int) == 92)
                · have n92 : ¬ s[k + 1] = 92 := byte_not (n := 92) d92 (by omega)
                  cases d116 : ((s[k + 1].toNat : Int) == 116)
                  · have n116 : ¬ s[k + 1] = 116 := byte_not (n := 116) d116 (by omega)
                    cases d110 : ((s[k + 1].toNat : Int) == 110)
                    · have n110 : ¬ s[k + 1] = 110 := byte_not (n := 110) d110 (by omega)
                      cases d48 : ((s[k + 1].toNat : Int) == 48)
                      · have n48 : ¬ s[k + 1] = 48 := byte_not (n := 48) d48 (by omega)
                        have HX : Hid (textD s = none) := fst_none HST.out (by
                          rw [HD2.out]
                          refine field_esc_no _ ?_
                          unfold escD
                          rw [if_neg n92, if_neg n116, if_neg n110, if_neg n48])
                        clear n92 n116 n110 n48
                        go_wp2
                        go_ret2
                        exact field_no HX.out hnx
                      · have HX : Hid (FSt s (k + 2) (xs ++ [0])) := HE.out 0 (by
                          unfold escD
                          rw [if_neg n92, if_neg n116, if_neg n110, if_pos (show s[k + 1] = 48 from byte_is (n := 48) d48 (by omega))])
                        clear n92 n116 n110
                        go_wp2_with (at_builtin; refine wpList_append_own _ rfl _ _ 87 rfl w.heap.size 5 i0 (.int .u8 0) 1 1 Tryz.underlying87 hi hz0 hz1 hz2 rfl (by decide) _ _ _ rfl (hown.alloc _) ⟨wr.heap.size, 0, none⟩ 1 1 [.int .u8 0] rfl rfl (cell_one_new _ _ _) (by simp [Value.oneCell']) (by unfold maxLen; omega) (by omega) (by have := hnx.size; simp; omega) ?_; intro v' w1 hown' hgrow _)
                        have HB := below_own hnx.size hnx hown hgrow
                        go_roundw
                        case rel => exact ⟨k + 2, _, by omega, by simp; omega, by go_num, u8s_push (x := 0) hown', HB, HX.out⟩
                        case measure => simp [intOf]; omega
                    · have HX : Hid (FSt s (k + 2) (xs ++ [10])) := HE.out 10 (by
                        unfold escD
                        rw [if_neg n92, if_neg n116, if_pos (show s[k + 1] = 110 from byte_is (n := 110) d110 (by omega))])
                      clear n92 n116
                      go_wp2_with (at_builtin; refine wpList_append_own _ rfl _ _ 87 rfl w.heap.size 5 i0 (.int .u8 0) 1 1 Tryz.underlying87 hi hz0 hz1 hz2 rfl (by decide) _ _ _ rfl (hown.alloc _) ⟨wr.heap.size, 0, none⟩ 1 1 [.int .u8 10] rfl rfl (cell_one_new _ _ _) (by simp [Value.oneCell']) (by unfold maxLen; omega) (by omega) (by have := hnx.size; simp; omega) ?_; intro v' w1 hown' hgrow _)
                      have HB := below_own hnx.size hnx hown hgrow
                      go_roundw
                      case rel => exact ⟨k + 2, _, by omega, by simp; omega, by go_num, u8s_push (x := 10) hown', HB, HX.out⟩
                      case measure => simp [intOf]; omega
                  · have HX : Hid (FSt s (k + 2) (xs ++ [9])) := HE.out 9 (by
                      unfold escD
                      rw [if_neg n92, if_pos (show s[k + 1] = 116 from byte_is (n := 116) d116 (by omega))])
                    clear n92
                    go_wp2_with (at_builtin; refine wpList_append_own _ rfl _ _ 87 rfl w.heap.size 5 i0 (.int .u8 0) 1 1 Tryz.underlying87 hi hz0 hz1 hz2 rfl (by decide) _ _ _ rfl (hown.alloc _) ⟨wr.heap.size, 0, none⟩ 1 1 [.int .u8 9] rfl rfl (cell_one_new _ _ _) (by simp [Value.oneCell']) (by unfold maxLen; omega) (by omega) (by have := hnx.size; simp; omega) ?_; intro v' w1 hown' hgrow _)
                    have HB := below_own hnx.size hnx hown hgrow
                    go_roundw
                    case rel => exact ⟨k + 2, _, by omega, by simp; omega, by go_num, u8s_push (x := 9) hown', HB, HX.out⟩
                    case measure => simp [intOf]; omega
                · have HX : Hid (FSt s (k + 2) (xs ++ [s[k]])) := by
                    unfold Hid
                    rw [HSK.out]
                    refine HE.out 92 ?_
                    unfold escD
                    rw [if_pos (show s[k + 1] = 92 from byte_is (n := 92) d92 (by omega))]
                  go_wp2_with (at_builtin; refine wpList_append_own _ rfl _ _ 87 rfl w.heap.size 5 i0 (.int .u8 0) 1 1 Tryz.underlying87 hi hz0 hz1 hz2 rfl (by decide) _ _ _ rfl (hown.alloc _) ⟨wr.heap.size, 0, none⟩ 1 1 [.int .u8 (s[k].toNat : Int)] rfl rfl (cell_one_new _ _ _) (by simp [Value.oneCell']) (by unfold maxLen; omega) (by omega) (by have := hnx.size; simp; omega) ?_; intro v' w1 hown' hgrow _)
                  have HB := below_own hnx.size hnx hown hgrow
                  go_roundw
                  case rel => exact ⟨k + 2, _, by omega, by simp; omega, by go_num, u8s_push (x := s[k]) hown', HB, HX.out⟩
                  case measure => simp [intOf]; omega
          · have HX := hide (HBAD.out (.inr (.inr (byte_is (n := 10) c10 (by omega)))))
            go_wp2
            go_ret2
            exact field_no HX.out hnx
        · have HX := hide (HBAD.out (.inr (.inl (byte_is (n := 9) c9 (by omega)))))
          go_wp2
          go_ret2
          exact field_no HX.out hnx
      · have HX := hide (HBAD.out (.inl (byte_is (n := 0) c0 (by omega))))
        go_wp2
        go_ret2
        exact field_no HX.out hnx
    · obtain rfl : k = s.size := by omega
      have HX := hide (fst_end HST.out)
      have hrun := back_any hown
      go_wp2
      go_ret2
      exact ⟨bs xs, true, rfl, .inl ⟨HX.out, rfl⟩, hnx⟩
end Go.Proofs.YtfemboojdablhaaGreatDoor.Tre
namespace Go.Proofs.YtfemboojdablhaaGreatDoor.Tre
open Go.RowKit
def BoxN (W : World) (b : Nat) (k : Int) (nm : ByteArray) (up sz tm : Int) (tx : ByteArray) (kv : Value) : Prop :=
  W.heap[b]? = some (.cells #[.int .u8 k, .string nm, .int .i64 up, .int .i64 sz, .int .i64 tm, .string tx, kv] 42)
theorem BoxN.cells {W : World} {b : Nat} {k : Int} {nm : ByteArray} {up sz tm : Int} {tx : ByteArray} {kv : Value} (h : BoxN W b k nm up sz tm tx kv) :
    W.cell? ⟨b, 0, none⟩ = some (.int .u8 k) ∧ W.cell? ⟨b, 1, none⟩ = some (.string nm) ∧ W.cell? ⟨b, 2, none⟩ = some (.int .i64 up) ∧ W.cell? ⟨b, 3, none⟩ = some (.int .i64 sz) ∧ W.cell? ⟨b, 4, none⟩ = some (.int .i64 tm) ∧ W.cell? ⟨b, 5, none⟩ = some (.string tx) ∧ W.cell? ⟨b, 6, none⟩ = some kv ∧ ∀ j, W.frozen? ⟨b, j, none⟩ = false := box_cells h
theorem BoxN.set3 {W : World} {b : Nat} {k : Int} {nm : ByteArray} {up sz tm : Int} {tx : ByteArray} {kv : Value} (h : BoxN W b k nm up sz tm tx kv) (x : Int) : BoxN (W.setCell ⟨b, 3, none⟩ (.int .i64 x)) b k nm up x tm tx kv := by
  obtain ⟨hlt, hk⟩ := Array.getElem?_eq_some_iff.1 h
  show (W.heap.modify b _)[b]? = _
  rw [Array.getElem?_eq_getElem (by rw [Array.size_modify]; exact hlt), Array.getElem_modify_self, hk]
  rfl
theorem BoxN.set4 {W : World} {b : Nat} {k : Int} {nm : ByteArray} {up sz tm : Int} {tx : ByteArray} {kv : Value} (h : BoxN W b k nm up sz tm tx kv) (x : Int) : BoxN (W.setCell ⟨b, 4, none⟩ (.int .i64 x)) b k nm up sz x tx kv := by
  obtain ⟨hlt, hk⟩ := Array.getElem?_eq_some_iff.1 h
  show (W.heap.modify b _)[b]? = _
  rw [Array.getElem?_eq_getElem (by rw [Array.size_modify]; exact hlt), Array.getElem_modify_self, hk]
  rfl
theorem BoxN.set0 {W : World} {b : Nat} {k : Int} {nm : ByteArray} {up sz tm : Int} {tx : ByteArray} {kv : Value} (h : BoxN W b k nm up sz tm tx kv) (x : Int) : BoxN (W.setCell ⟨b, 0, none⟩ (.int .u8 x)) b x nm up sz tm tx kv := by
  obtain ⟨hlt, hk⟩ := Array.getElem?_eq_some_iff.1 h
  show (W.heap.modify b _)[b]? = _
  rw [Array.getElem?_eq_getElem (by rw [Array.size_modify]; exact hlt), Array.getElem_modify_self, hk]
  rfl
theorem BoxN.set5 {W : World} {b : Nat} {k : Int} {nm : ByteArray} {up sz tm : Int} {tx : ByteArray} {kv : Value} (h : BoxN W b k nm up sz tm tx kv) (x : ByteArray) : BoxN (W.setCell ⟨b, 5, none⟩ (.string x)) b k nm up sz tm x kv := by
  obtain ⟨hlt, hk⟩ := Array.getElem?_eq_some_iff.1 h
  show (W.heap.modify b _)[b]? = _
  rw [Array.getElem?_eq_getElem (by rw [Array.size_modify]; exact hlt), Array.getElem_modify_self, hk]
  rfl
theorem BoxN.below {W W' : World} {b C : Nat} {k : Int} {nm : ByteArray} {up sz tm : Int} {tx : ByteArray} {kv : Value} (h : BoxN W b k nm up sz tm tx kv) (hb : Below C W W') (hC : b < C) : BoxN W' b k nm up sz tm tx kv := (hb.block b hC).trans h
theorem BoxN.lt {W : World} {b : Nat} {k : Int} {nm : ByteArray} {up sz tm : Int} {tx : ByteArray} {kv : Value} (h : BoxN W b k nm up sz tm tx kv) : b < W.heap.size := (Array.getElem?_eq_some_iff.1 h).1
def FieldsPost (r : Option FldD) (b : Nat) (nm : ByteArray) (up : Int) (kv : Value) (w : World) (e : Ending) (w' : World) : Prop :=
  ∃ (ok : Bool) (k sz tm : Int) (tx : ByteArray), e = .returned (.bool ok) ∧ BoxN w' b k nm up sz tm tx kv ∧ (r = some (k, sz, tm, tx) ∧ ok = true ∨ r = none ∧ ok = false) ∧ Below b w w'
theorem fields_yes {r : Option FldD} {b : Nat} {nm : ByteArray} {up : Int} {kv : Value} {w w' : World} {k sz tm : Int} {tx : ByteArray} (hr : r = some (k, sz, tm, tx)) (h : BoxN w' b k nm up sz tm tx kv) (hb : Below b w w') : FieldsPost r b nm up kv w (.returned (.bool true)) w' := ⟨true, k, sz, tm, tx, rfl, h, .inl ⟨hr, rfl⟩, hb⟩
theorem fields_no {r : Option FldD} {b : Nat} {nm : ByteArray} {up : Int} {kv : Value} {w w' : World} {k sz tm : Int} {tx : ByteArray} (hr : r = none) (h : BoxN w' b k nm up sz tm tx kv) (hb : Below b w w') : FieldsPost r b nm up kv w (.returned (.bool false)) w' := ⟨false, k, sz, tm, tx, rfl, h, .inr ⟨hr, rfl⟩, hb⟩
theorem fD_d {k : Int} {ys : List ByteArray} (h : k = 100 ∨ k = 120) (h0 : ys = []) : fieldsD k ys = some (k, 0, 0, bs []) := by
  subst h0; unfold fieldsD; rw [if_pos h]
theorem fD_d_no {k : Int} {ys : List ByteArray} (h : k = 100 ∨ k = 120) (h0 : ys ≠ []) : fieldsD k ys = none := by
  unfold fieldsD; rw [if_pos h]
  cases ys with
  | nil => exact absurd rfl h0
  | cons a b => rfl
theorem fD_f {y0 y1 : ByteArray} : fieldsD 102 [y0, y1] = if gB y0 && gB y1 then some (102, nJ y0, nJ y1, bs []) else none := by
  unfold fieldsD; rw [if_neg (by decide), if_pos rfl]
theorem fD_f_no {ys : List ByteArray} (h : ys.length ≠ 2) : fieldsD 102 ys = none := by
  unfold fieldsD; rw [if_neg (by decide), if_pos rfl]
  match ys, h with
  | [], _ => rfl
  | [_], _ => rfl
  | [_, _], h => exact absurd rfl h
  | _ :: _ :: _ :: _, _ => rfl
theorem fD_t {y0 y1 : ByteArray} : fieldsD 116 [y0, y1] = if gB y0 then (textD y1).map (fun t => (102, (t.size : Int), nJ y0, t)) else none := by
  unfold fieldsD; rw [if_neg (by decide), if_neg (by decide), if_pos rfl]
theorem fD_t_no {ys : List ByteArray} (h : ys.length ≠ 2) : fieldsD 116 ys = none := by
  unfold fieldsD; rw [if_neg (by decide), if_neg (by decide), if_pos rfl]
  match ys, h with
  | [], _ => rfl
  | [_], _ => rfl
  | [_, _], h => exact absurd rfl h
  | _ :: _ :: _ :: _, _ => rfl
theorem fD_l {y0 : ByteArray} : fieldsD 108 [y0] = (textD y0).bind (fun t => if t.size = 0 then none else some (108, 0, 0, t)) := by
  unfold fieldsD; rw [if_neg (by decide), if_neg (by decide), if_neg (by decide), if_pos rfl]
theorem fD_l_no {ys : List ByteArray} (h : ys.length ≠ 1) : fieldsD 108 ys = none := by
  unfold fieldsD; rw [if_neg (by decide), if_neg (by decide), if_neg (by decide), if_pos rfl]
  match ys, h with
  | [], _ => rfl
  | [_], h => exact absurd rfl h
  | _ :: _ :: _, _ => rfl
theorem fD_none {k : Int} {ys : List ByteArray} (h1 : ¬ k = 100) (h2 : ¬ k = 120) (h3 : ¬ k = 102) (h4 : ¬ k = 116) (h5 : ¬ k = 108) : fieldsD k ys = none := by
  unfold fieldsD; rw [if_neg (by simp [h1, h2]), if_neg h3, if_neg h4, if_neg h5]
set_option maxRecDepth 100000 in
set_option maxHeartbeats 2000000 in
theorem fields_any (b g off cap : Nat) (ys : List ByteArray) (k : Int) (nm : ByteArray) (up : Int) (kv : Value) (w : World) (hbox : BoxN w b k nm up 0 0 (bs []) kv) (hg : g < b)
    (hx : ∀ (j : Nat) (x : ByteArray), ys[j]? = some x → w.cell? ⟨g, off + j, none⟩ = some (.string x)) (hsz : ∀ x ∈ ys, x.size ≤ 20000) (hl : ys.length ≤ 1000000) :
    Calls Tryz.prog 32 #[.pointer (some ⟨b, 0, none⟩), .slice (some ⟨g, off, none⟩) ys.length cap] w (FieldsPost (fieldsD k ys) b nm up kv w) := by
  obtain ⟨c0, c1, c2, c3, c4, c5, c6, cf⟩ := hbox.cells
  have f0 := cf 0
  have f3 := cf 3
  have f4 := cf 4
  have f5 := cf 5
  have HBX := hide hbox
  have HX := hide hx
  have HS := hide hsz
  clear cf hbox hx hsz
  have hbl := (unhide HBX).lt
  have hgb : ¬ g = b := by omega
  have hbg : ¬ b = g := by omega
  cases d100 : (k == 100)
  · cases d120 : (k == 120)
    · cases d102 : (k == 102)
      · cases d116 : (k == 116)
        · cases d108 : (k == 108)
          · have HR : Hid (fieldsD k ys = none) := fD_none (by simpa using d100) (by simpa using d120) (by simpa using d102) (by simpa using d116) (by simpa using d108)
            go_enter Tryz.func32, Tryz.ntmps32
            go_wp2
            go_ret
            exact fields_no HR.out (unhide HBX) (Below.refl _ _)
          · obtain rfl : k = 108 := by simpa using d108
            by_cases hn : ys.length = 1
            · obtain ⟨y0, rfl⟩ : ∃ a, ys = [a] := by
                match ys, hn with
                | [a], _ => exact ⟨a, rfl⟩
              have x0 : w.cell? ⟨g, off, none⟩ = some (.string y0) := (unhide HX) 0 y0 rfl
              have z0 := (unhide HS) y0 (by simp)
              go_enter Tryz.func32, Tryz.ntmps32
              go_wp2_with fail
              refine (field_any y0 _ (by omega)).mono ?_
              rintro e w1 ⟨r, ok, rfl, hcase, hb1⟩
              have hbox1 := (unhide HBX).below hb1 hbl
              obtain ⟨e0, e1, e2, e3, e4, e5, e6, ef⟩ := hbox1.cells
              have ef5 := ef 5
              have HBB : Hid (Below b w w1) := hb1.mono (by omega)
              rcases hcase with ⟨ht, rfl⟩ | ⟨ht, rfl, rfl⟩
              · by_cases hr0 : r.size = 0
                · have he := emp_yes hr0
                  have HR : Hid (fieldsD 108 [y0] = none) := by unfold Hid; rw [fD_l, ht]; simp only [Option.bind_some]; rw [if_pos hr0]
                  clear ht hr0
                  go_wp2
                  go_ret
                  exact fields_no HR.out (hbox1.set5 r) ((unhide HBB).setCell (p := ⟨b, 5, none⟩) (Nat.le_refl _) _)
                · have he := emp_no (show 1 ≤ r.size by omega)
                  have HR : Hid (fieldsD 108 [y0] = some (108, 0, 0, r)) := by unfold Hid; rw [fD_l, ht]; simp only [Option.bind_some]; rw [if_neg hr0]
                  clear ht hr0
                  go_wp2
                  go_ret
                  exact fields_yes HR.out (hbox1.set5 r) ((unhide HBB).setCell (p := ⟨b, 5, none⟩) (Nat.le_refl _) _)
              · have HR : Hid (fieldsD 108 [y0] = none) := by unfold Hid; rw [fD_l, ht]; rfl
                clear ht
                go_wp2
                go_ret
                exact fields_no HR.out (hbox1.set5 (bs [])) ((unhide HBB).setCell (p := ⟨b, 5, none⟩) (Nat.le_refl _) _)
            · have hnn : ((ys.length : Int) != 1) = true := by
                rw [bne_iff_ne]; omega
              have HR := hide (fD_l_no hn)
              go_enter Tryz.func32, Tryz.ntmps32
              go_wp2
              go_ret
              exact fields_no HR.out (unhide HBX) (Below.refl _ _)
        · obtain rfl : k = 116 := by simpa using d116
          by_cases hn : ys.length = 2
          · obtain ⟨y0, y1, rfl⟩ : ∃ a b, ys = [a, b] := by
              match ys, hn with
              | [a, b], _ => exact ⟨a, b, rfl⟩
            have x0 : w.cell? ⟨g, off, none⟩ = some (.string y0) := (unhide HX) 0 y0 rfl
            have x1 := (unhide HX) 1 y1 rfl
            have z0 := (unhide HS) y0 (by simp)
            have z1 := (unhide HS) y1 (by simp)
            have HGB : Hid (gB y0 = true → 0 ≤ nJ y0) := fun h => (gB_bd h).1
            have HGN : Hid (gB y0 = false → ¬ 0 ≤ nJ y0) := fun h => by rw [gB_no h]; omega
            go_enter Tryz.func32, Tryz.ntmps32
            go_wp2_with fail
            refine (refnum_any y0 _ (by unfold maxLen; omega)).mono ?_
            rintro e w' ⟨rfl, rfl⟩
            go_wp2_with fail
            refine (field_any y1 _ (by omega)).mono ?_
            rintro e w1 ⟨r, ok, rfl, hcase, hb1⟩
            have hbox1 := ((unhide HBX).set4 (nJ y0)).below hb1 (by simp; omega)
            obtain ⟨e0, e1, e2, e3, e4, e5, e6, ef⟩ := hbox1.cells
            have ef0 := ef 0
            have ef3 := ef 3
            have ef5 := ef 5
            have HBB : Hid (Below b w' w1) := ((Below.refl b w').setCell (p := ⟨b, 4, none⟩) (Nat.le_refl _) (.int .i64 (nJ y0))).trans (hb1.mono (by simp; omega))
            rcases hcase with ⟨ht, rfl⟩ | ⟨ht, rfl, rfl⟩
            · cases hgb0 : gB y0
              · have hneg : decide (0 ≤ nJ y0) = false := decide_eq_false (by have := HGN.out hgb0; omega)
                have HR : Hid (fieldsD 116 [y0, y1] = none) := by unfold Hid; rw [fD_t, hgb0]; rfl
                clear ht hgb0
                go_wp2
                go_ret
                exact fields_no HR.out (((hbox1.set0 102).set5 r).set3 _) ((((unhide HBB).setCell (p := ⟨b, 0, none⟩) (Nat.le_refl _) _).setCell (p := ⟨b, 5, none⟩) (Nat.le_refl _) _).setCell (p := ⟨b, 3, none⟩) (Nat.le_refl _) _)
              · have hpos := HGB.out hgb0
                have HR : Hid (fieldsD 116 [y0, y1] = some (102, (r.size : Int), nJ y0, r)) := by unfold Hid; rw [fD_t, hgb0, ht]; rfl
                clear ht hgb0
                go_wp2
                go_ret
                exact fields_yes HR.out (((hbox1.set0 102).set5 r).set3 _) ((((unhide HBB).setCell (p := ⟨b, 0, none⟩) (Nat.le_refl _) _).setCell (p := ⟨b, 5, none⟩) (Nat.le_refl _) _).setCell (p := ⟨b, 3, none⟩) (Nat.le_refl _) _)
            · have HR : Hid (fieldsD 116 [y0, y1] = none) := by
                unfold Hid; rw [fD_t, ht]
                cases gB y0 <;> rfl
              clear ht
              go_wp2
              go_ret
              exact fields_no HR.out (((hbox1.set0 102).set5 (bs [])).set3 _) ((((unhide HBB).setCell (p := ⟨b, 0, none⟩) (Nat.le_refl _) _).setCell (p := ⟨b, 5, none⟩) (Nat.le_refl _) _).setCell (p := ⟨b, 3, none⟩) (Nat.le_refl _) _)
          · have hnn : ((ys.length : Int) != 2) = true := by
              rw [bne_iff_ne]; omega
            have HR := hide (fD_t_no hn)
            go_enter Tryz.func32, Tryz.ntmps32
            go_wp2
            go_ret
            exact fields_no HR.out (unhide HBX) (Below.refl _ _)
      · obtain rfl : k = 102 := by simpa using d102
        by_cases hn : ys.length = 2
        · obtain ⟨y0, y1, rfl⟩ : ∃ a b, ys = [a, b] := by
            match ys, hn with
            | [a, b], _ => exact ⟨a, b, rfl⟩
          have x0 : w.cell? ⟨g, off, none⟩ = some (.string y0) := (unhide HX) 0 y0 rfl
          have x1 := (unhide HX) 1 y1 rfl
          have z0 := (unhide HS) y0 (by simp)
          have z1 := (unhide HS) y1 (by simp)
          have HGB : Hid (∀ y, gB y = true → 0 ≤ nJ y) := fun y h => (gB_bd h).1
          have HGN : Hid (∀ y, gB y = false → ¬ 0 ≤ nJ y) := fun y h => by rw [gB_no h]; omega
          go_enter Tryz.func32, Tryz.ntmps32
          go_wp2_with fail
          refine (refnum_any y0 _ (by unfold maxLen; omega)).mono ?_
          rintro e w' ⟨rfl, rfl⟩
          go_wp2_with fail
          refine (refnum_any y1 _ (by unfold maxLen; omega)).mono ?_
          rintro e w' ⟨rfl, rfl⟩
          cases hg0 : gB y0
          · have hneg := HGN.out y0 hg0
            have hneg2 : decide (0 ≤ nJ y0) = false := decide_eq_false (by have := HGN.out y0 hg0; omega)
            have HR : Hid (fieldsD 102 [y0, y1] = none) := by unfold Hid; rw [fD_f, hg0]; rfl
            clear hg0
            go_wp2
            go_ret
            exact fields_no HR.out (((unhide HBX).set3 _).set4 _) (((Below.refl _ _).setCell (p := ⟨b, 3, none⟩) (Nat.le_refl _) _).setCell (p := ⟨b, 4, none⟩) (Nat.le_refl _) _)
          · have hpos := HGB.out y0 hg0
            cases hg1 : gB y1
            · have hneg : decide (0 ≤ nJ y1) = false := decide_eq_false (by have := HGN.out y1 hg1; omega)
              have HR : Hid (fieldsD 102 [y0, y1] = none) := by unfold Hid; rw [fD_f, hg0, hg1]; rfl
              clear hg0 hg1
              go_wp2
              go_ret
              exact fields_no HR.out (((unhide HBX).set3 _).set4 _) (((Below.refl _ _).setCell (p := ⟨b, 3, none⟩) (Nat.le_refl _) _).setCell (p := ⟨b, 4, none⟩) (Nat.le_refl _) _)
            · have hpos1 := HGB.out y1 hg1
              have HR : Hid (fieldsD 102 [y0, y1] = some (102, nJ y0, nJ y1, bs [])) := by unfold Hid; rw [fD_f, hg0, hg1]; rfl
              clear hg0 hg1
              go_wp2
              go_ret
              exact fields_yes HR.out (((unhide HBX).set3 _).set4 _) (((Below.refl _ _).setCell (p := ⟨b, 3, none⟩) (Nat.le_refl _) _).setCell (p := ⟨b, 4, none⟩) (Nat.le_refl _) _)
        · have hnn : ((ys.length : Int) != 2) = true := by
            rw [bne_iff_ne]; omega
          have HR := hide (fD_f_no hn)
          go_enter Tryz.func32, Tryz.ntmps32
          go_wp2
          go_ret
          exact fields_no HR.out (unhide HBX) (Below.refl _ _)
    · obtain rfl : k = 120 := by simpa using d120
      by_cases hn : ys = []
      · subst hn
        go_enter Tryz.func32, Tryz.ntmps32
        go_wp2
        go_ret
        exact fields_yes (fD_d (.inr rfl) rfl) (unhide HBX) (Below.refl _ _)
      · have hnn : ((ys.length : Int) == 0) = false := by
          rw [beq_eq_false_iff_ne]; intro e; exact hn (List.eq_nil_of_length_eq_zero (by omega))
        have HR := hide (fD_d_no (k := 120) (.inr rfl) hn)
        clear hn
        go_enter Tryz.func32, Tryz.ntmps32
        go_wp2
        go_ret
        exact fields_no HR.out (unhide HBX) (Below.refl _ _)
  · obtain rfl : k = 100 := by simpa using d100
    by_cases hn : ys = []
    · subst hn
      go_enter Tryz.func32, Tryz.ntmps32
      go_wp2
      go_ret
      exact fields_yes (fD_d (.inl rfl) rfl) (unhide HBX) (Below.refl _ _)
    · have hnn : ((ys.length : Int) == 0) = false := by
        rw [beq_eq_false_iff_ne]; intro e; exact hn (List.eq_nil_of_length_eq_zero (by omega))
      have HR := hide (fD_d_no (k := 100) (.inl rfl) hn)
      clear hn
      go_enter Tryz.func32, Tryz.ntmps32
      go_wp2
      go_ret
      exact fields_no HR.out (unhide HBX) (Below.refl _ _)
end Go.Proofs.YtfemboojdablhaaGreatDoor.Tre
namespace Go.Proofs.YtfemboojdablhaaGreatDoor.Tre
open Go.RowKit
theorem piece_le (c : UInt8) (l : List UInt8) : ∀ p ∈ splitL c l, p.length ≤ l.length := by
  induction l with
  | nil => intro p hp; simp [splitL] at hp; subst hp; simp
  | cons x r ih =>
    intro p hp
    by_cases h : x = c
    · subst h
      rw [split_same] at hp
      simp at hp
      rcases hp with rfl | hp
      · simp
      · have := ih p hp; simp; omega
    · obtain ⟨q, qs, e1, e2⟩ := split_other c x r h
      rw [e2] at hp
      rw [e1] at ih
      simp at hp
      rcases hp with rfl | hp
      · have := ih q (by simp); simp; omega
      · have := ih p (by simp [hp]); simp; omega
theorem cutS_le (c : UInt8) (s : ByteArray) : ∀ p ∈ cutS c s, p.size ≤ s.size := by
  intro p hp
  unfold cutS at hp
  obtain ⟨q, hq, rfl⟩ := List.mem_map.1 hp
  have := piece_le c s.data.toList q hq
  rw [← size_list, ← size_list s]
  exact this
theorem cutS_ne' (c : UInt8) (s : ByteArray) : cutS c s ≠ [] := by
  unfold cutS; simp [split_ne]
theorem below7 {B b : Nat} {w W : World} {x0 x1 x2 x3 x4 x5 x6 : Value} (h : Below B w W) (hb : B ≤ b) : Below B w (((((((W.setCell ⟨b, 0, none⟩ x0).setCell ⟨b, 1, none⟩ x1).setCell ⟨b, 2, none⟩ x2).setCell ⟨b, 3, none⟩ x3).setCell ⟨b, 4, none⟩ x4).setCell ⟨b, 5, none⟩ x5).setCell ⟨b, 6, none⟩ x6) :=
  (((((((h.setCell (p := ⟨b, 0, none⟩) hb x0).setCell (p := ⟨b, 1, none⟩) hb x1).setCell (p := ⟨b, 2, none⟩) hb x2).setCell (p := ⟨b, 3, none⟩) hb x3).setCell (p := ⟨b, 4, none⟩) hb x4).setCell (p := ⟨b, 5, none⟩) hb x5).setCell (p := ⟨b, 6, none⟩) hb x6)
theorem set_grown (W : World) (b i : Nat) (v : Value) : W.grownBy (W.setCell ⟨b, i, none⟩ v) (some b) := by
  refine ⟨rfl, rfl, rfl, by simp, fun k hk hne => ?_⟩
  have hkb : b ≠ k := fun e => hne (by rw [e])
  show (W.heap.modify b _)[k]? = _
  rw [Array.getElem?_modify, if_neg hkb]
theorem StrRow.wider {C C' : Nat} {W : World} {v : Value} {xs : List ByteArray} (h : StrRow C W v xs) (hC : C ≤ C') : StrRow C' W v xs := by
  rcases h with h | ⟨g, cap, e, hg, r⟩
  · exact .inl h
  · exact .inr ⟨g, cap, e, by omega, r⟩
theorem StrRow.set {C b i g n cap : Nat} {W : World} {u : Value} {xs : List ByteArray} (h : StrRow C W (.slice (some ⟨g, 0, none⟩) n cap) xs) (hne : g ≠ b) : StrRow C (W.setCell ⟨b, i, none⟩ u) (.slice (some ⟨g, 0, none⟩) n cap) xs := by
  rcases h with ⟨e, _⟩ | ⟨g', cap', e, hg, hc, hx⟩
  · cases e
  · cases e
    exact .inr ⟨g, cap, rfl, hg, hc, fun j x hj => (set_grown W b i u).cell (a := ⟨g, j, none⟩) (hx j x hj) (fun e => hne (Option.some.inj e))⟩
def LineOk (w' : World) (nd : NodeD) (nv : Value) (ok : Bool) (r : Option LineD) : Prop :=
  (ok = true ∧ ∃ ln, r = some ln ∧ ln.fld = (nd.kind, nd.size, nd.time, nd.text) ∧ nd.name = lastS ln.way ∧ (cutS 47 ln.way).all nameOk = true ∧ StrRow w'.heap.size w' nv (cutS 47 ln.way)) ∨ (ok = false ∧ r = none)
def LinePost (r : Option LineD) (w : World) (e : Ending) (w' : World) : Prop :=
  ∃ (nd : NodeD) (nv : Value) (ok : Bool), e = .returned (.tuple #[.agg #[.int .u8 nd.kind, .string nd.name, .int .i64 nd.up, .int .i64 nd.size, .int .i64 nd.time, .string nd.text, .slice none 0 0], nv, .bool ok]) ∧ LineOk w' nd nv ok r ∧ Below w.heap.size w w'
theorem line_no {r : Option LineD} {w w' : World} (hr : r = none) (hb : Below w.heap.size w w') : LinePost r w (.returned (.tuple #[.agg #[.int .u8 0, .string ⟨#[]⟩, .int .i64 0, .int .i64 0, .int .i64 0, .string ⟨#[]⟩, .slice none 0 0], .slice none 0 0, .bool false])) w' :=
  ⟨⟨0, ⟨#[]⟩, 0, 0, 0, ⟨#[]⟩, []⟩, _, false, rfl, .inr ⟨rfl, hr⟩, hb⟩
def lineC (cs : List ByteArray) : Option LineD := match cs with
  | k :: way :: ys => if (cutS 47 way).all nameOk then (fieldsD (headI k) ys).map (fun r => ⟨r, way⟩) else none
  | _ => none
theorem lineD_C (s : ByteArray) : lineD s = lineC (cutS 9 s) := rfl
theorem lineC_short {cs : List ByteArray} (h : cs.length < 2) : lineC cs = none := by
  match cs, h with
  | [], _ => rfl
  | [_], _ => rfl
theorem lineC_two {cs : List ByteArray} {y0 y1 : ByteArray} (h0 : cs[0]? = some y0) (h1 : cs[1]? = some y1) : lineC cs = if (cutS 47 y1).all nameOk then (fieldsD (headI y0) (cs.drop 2)).map (fun r => ⟨r, y1⟩) else none := by
  match cs, h0, h1 with
  | a :: b :: r, h0, h1 =>
    simp at h0 h1
    subst h0; subst h1
    rfl
theorem head_no {y : ByteArray} (h : y.size ≠ 1) (ys : List ByteArray) : fieldsD (headI y) ys = none := by
  have : headI y = -1 := by
    unfold headI
    rw [← size_list] at h
    match e : y.data.toList, h with
    | [], _ => rfl
    | [_], h => exact absurd rfl h
    | _ :: _ :: _, _ => rfl
  rw [this]
  exact fD_none (by decide) (by decide) (by decide) (by decide) (by decide)
theorem head_yes {y : ByteArray} (h : y.size = 1) : headI y = (y[0].toNat : Int) := by
  unfold headI
  have h2 := drop_get y 0 (by omega)
  rw [List.drop_zero, List.drop_of_length_le (by simp; omega)] at h2
  rw [h2]
theorem last_name {y nm : ByteArray} (h : (cutS 47 y)[(cutS 47 y).length - 1]? = some nm) : nm = lastS y := by
  rw [← List.getLast?_eq_getElem?] at h
  unfold cutS at h
  rw [List.getLast?_map] at h
  unfold lastS lastL
  cases e : (splitL 47 y.data.toList).getLast? with
  | none => rw [e] at h; cases h
  | some x => rw [e] at h; cases h; rfl
theorem fields_text {k : Int} {ys : List ByteArray} {f : FldD} {n : Nat} (hy : ∀ y ∈ ys, y.size ≤ n) (h : fieldsD k ys = some f) : f.2.2.2.size ≤ n := by
  unfold fieldsD at h
  by_cases h1 : k = 100 ∨ k = 120
  · rw [if_pos h1] at h
    match ys, h with
    | [], h => cases h; exact Nat.zero_le _
  · rw [if_neg h1] at h
    by_cases h2 : k = 102
    · rw [if_pos h2] at h
      match ys, h with
      | [a, b], h =>
        have h' : (if gB a && gB b then some ((102, nJ a, nJ b, bs []) : FldD) else none) = some f := h
        by_cases h3 : (gB a && gB b) = true
        · rw [if_pos h3] at h'; cases h'; exact Nat.zero_le _
        · rw [if_neg h3] at h'; cases h'
    · rw [if_neg h2] at h
      by_cases h3 : k = 116
      · rw [if_pos h3] at h
        match ys, hy, h with
        | [a, b], hy, h =>
          have h' : (if gB a then (textD b).map (fun t => ((102, (t.size : Int), nJ a, t) : FldD)) else none) = some f := h
          by_cases h4 : gB a = true
          · rw [if_pos h4] at h'
            cases e : textD b with
            | none => rw [e] at h'; cases h'
            | some t => rw [e] at h'; cases h'; exact Nat.le_trans (textD_len e) (hy b (by simp))
          · rw [if_neg h4] at h'; cases h'
      · rw [if_neg h3] at h
        by_cases h5 : k = 108
        · rw [if_pos h5] at h
          match ys, hy, h with
          | [a], hy, h =>
            have h' : (textD a).bind (fun t => if t.size = 0 then none else some ((108, 0, 0, t) : FldD)) = some f := h
            cases e : textD a with
            | none => rw [e] at h'; cases h'
            | some t =>
              rw [e] at h'
              simp only [Option.bind_some] at h'
              by_cases h6 : t.size = 0
              · rw [if_pos h6] at h'; cases h'
              · rw [if_neg h6] at h'; cases h'; exact Nat.le_trans (textD_len e) (hy a (by simp))
        · rw [if_neg h5] at h; cases h
theorem line_facts {s : ByteArray} {ln : LineD} (h : lineD s = some ln) : (cutS 47 ln.way).all nameOk = true ∧ ln.fld.2.2.2.size ≤ s.size ∧ ln.way.size ≤ s.size := by
  have hp := cutS_le 9 s
  unfold lineD at h
  match e : cutS 9 s, h with
  | k :: way :: ys, h =>
    rw [e] at hp
    have h' : (if (cutS 47 way).all nameOk then (fieldsD (headI k) ys).map (fun r => (⟨r, way⟩ : LineD)) else none) = some ln := h
    by_cases h1 : (cutS 47 way).all nameOk = true
    · rw [if_pos h1] at h'
      cases e2 : fieldsD (headI k) ys with
      | none => rw [e2] at h'; cases h'
      | some f =>
        rw [e2] at h'; cases h'
        exact ⟨h1, fields_text (fun y hy => hp y (by simp [hy])) e2, hp way (by simp)⟩
    · rw [if_neg h1] at h'; cases h'
set_option maxRecDepth 100000 in
set_option maxHeartbeats 2000000 in
theorem line_any (s : ByteArray) (w : World) (hs : s.size ≤ 20000) :
    Calls Tryz.prog 19 #[.string s] w (LinePost (lineD s) w) := by
  rw [lineD_C]
  generalize hr : lineC (cutS 9 s) = r
  have hl9 := cutS_length 9 s
  have hp9 := cutS_le 9 s
  go_enter Tryz.func19, Tryz.ntmps19
  go_wp2_with fail
  obtain ⟨W0, hW0⟩ : ∃ W0, w.alloc (.cells #[.int .u8 0, .string ⟨#[]⟩, .int .i64 0, .int .i64 0, .int .i64 0, .string ⟨#[]⟩, .slice none 0 0] 42) = W0 := ⟨_, rfl⟩
  rw [hW0]
  have hbx0 : BoxN W0 w.heap.size 0 ⟨#[]⟩ 0 0 0 ⟨#[]⟩ (.slice none 0 0) := by rw [← hW0]; exact World.alloc_heap_new w _
  have hbl0 : Below w.heap.size w W0 := by rw [← hW0]; exact (Below.refl _ _).alloc (Nat.le_refl _) _
  clear hW0
  refine (cut_any 9 s _ (by omega)).mono ?_
  rintro e w1 ⟨v1, rfl, hown1, hb1⟩
  have hbx1 := hbx0.below hb1 hbx0.lt
  have hB1 : Below w.heap.size w w1 := hbl0.trans (hb1.mono hbl0.size)
  obtain ⟨g1, cap1, rfl, hg1, hcap1, hx1⟩ := (StrRow.of_owns hown1).more (cutS_ne' 9 s)
  obtain ⟨b0, b1, b2, b3, b4, b5, b6, bf⟩ := hbx1.cells
  clear hown1 hb1 hbx0 hbl0
  obtain ⟨cs, hcs⟩ : ∃ cs, cs = cutS 9 s := ⟨_, rfl⟩
  rw [← hcs] at hl9 hp9 hx1 hcap1 hr ⊢
  have HRR := hide hr
  clear hcs hr
  by_cases h2 : cs.length < 2
  · have h2' : (cs.length : Int) < 2 := by omega
    have HR : Hid (r = none) := by unfold Hid; rw [← HRR.out]; exact lineC_short h2
    have f0 := bf 0; have f1 := bf 1; have f2 := bf 2; have f3 := bf 3; have f4 := bf 4; have f5 := bf 5; have f6 := bf 6
    clear hp9 hx1 bf
    go_wp2
    refine bodyPost_ret (v := .tuple #[.agg #[.int .u8 0, .string ⟨#[]⟩, .int .i64 0, .int .i64 0, .int .i64 0, .string ⟨#[]⟩, .slice none 0 0], .slice none 0 0, .bool false]) (by simp [results, Tryz.results19, go_sem, b0, b1, b2, b3, b4, b5, b6]) rfl (line_no HR.out (below7 hB1 (Nat.le_refl _)))
  · obtain ⟨y0, hy0⟩ : ∃ y, cs[0]? = some y := ⟨_, List.getElem?_eq_getElem (by omega)⟩
    obtain ⟨y1, hy1⟩ : ∃ y, cs[1]? = some y := ⟨_, List.getElem?_eq_getElem (by omega)⟩
    have x0 := hx1 0 y0 hy0
    have x1 := hx1 1 y1 hy1
    have z1 := hp9 y1 (List.mem_of_getElem? hy1)
    have h2' : ¬ (cs.length : Int) < 2 := by omega
    have HC := hide (HRR.out.symm.trans (lineC_two hy0 hy1))
    by_cases hy : y0.size = 1
    · have HHD := hide (head_yes hy)
      have hyb : ((y0.size : Int) != 1) = false := by rw [bne_eq_false_iff_eq]; omega
      have hl47 := cutS_length 47 y1
      have HX1 := hide hx1
      have HP9 := hide hp9
      have HBF := hide bf
      have HBX1 := hide hbx1
      have HB1 := hide hB1
      clear hx1 hp9 bf hy0 hy1 hbx1 hB1
      go_wp2_with fail
      refine (cut_any 47 y1 _ (by omega)).mono ?_
      rintro e w2 ⟨v2, rfl, hown2, hb2⟩
      have hbx2 := (unhide HBX1).below hb2 (unhide HBX1).lt
      have hsz1 := (unhide HB1).size
      have HB2 : Hid (Below w.heap.size w w2) := (unhide HB1).trans (hb2.mono hsz1)
      obtain ⟨g2, cap2, rfl, hg2, hcap2, hx2⟩ := (StrRow.of_owns hown2).more (cutS_ne' 47 y1)
      have hg2b := (hown2.lt g2 rfl).1
      obtain ⟨e0, e1, e2, e3, e4, e5, e6, ef⟩ := hbx2.cells
      have k0 : w2.cell? ⟨g1, 0, none⟩ = some (.string y0) := (hb2.cell (p := ⟨g1, 0, none⟩) hg1).trans x0
      obtain ⟨ns, hns⟩ : ∃ ns, ns = cutS 47 y1 := ⟨_, rfl⟩
      have hne : ns ≠ [] := by rw [hns]; exact cutS_ne' 47 y1
      have hpn : ∀ x ∈ ns, x.size ≤ y1.size := by rw [hns]; exact cutS_le 47 y1
      rw [← hns] at hl47 hx2 hcap2 ⊢
      have hnl : 1 ≤ ns.length := by
        cases ns with
        | nil => exact absurd rfl hne
        | cons a b => simp
      have HROW : Hid (StrRow w2.heap.size w2 (.slice (some ⟨g2, 0, none⟩) ns.length cap2) ns) := .inr ⟨g2, cap2, rfl, hg2, hcap2, hx2⟩
      have HNS := hide hns
      clear b0 b1 b2 b3 b4 b5 b6 hns hown2 x0 x1
      have f0 := ef 0; have f1 := ef 1; have f2 := ef 2; have f3 := ef 3; have f4 := ef 4; have f5 := ef 5; have f6 := ef 6
      clear ef
      have HX12 : Hid (∀ (j : Nat) (x : ByteArray), cs[j]? = some x → w2.cell? ⟨g1, j, none⟩ = some (.string x)) := fun j x hj => (hb2.cell (p := ⟨g1, j, none⟩) hg1).trans ((unhide HX1) j x hj)
      have HX2 := hide hx2
      have HPN := hide hpn
      have HB21 := hide hb2
      have HBX2 := hide hbx2
      clear hx2 hpn hb2 hbx2 hne
      go_wp2
      go_loop [7] (fun iv => ∃ k : Nat, k ≤ ns.length ∧ iv = .int .i64 k ∧ (ns.take k).all nameOk = true) (fun iv => ns.length - (intOf iv).toNat)
      case atStart => exact ⟨0, Nat.zero_le _, rfl, rfl⟩
      case round =>
        obtain ⟨k, hk, rfl, hall⟩ := hrel
        have HAL := hide hall
        clear hall
        by_cases hlt : k < ns.length
        · obtain ⟨nm, hnm⟩ : ∃ nm, ns[k]? = some nm := ⟨_, List.getElem?_eq_getElem hlt⟩
          have ck := (unhide HX2) k nm hnm
          have zk := (unhide HPN) nm (List.mem_of_getElem? hnm)
          have HNM := hide hnm
          clear hnm
          go_wp2_with fail
          refine (isName_any nm _ (by omega)).mono ?_
          rintro e w' ⟨rfl, rfl⟩
          cases hbb : nameOk nm
          · have HR : Hid (r = none) := by
              unfold Hid; rw [HC.out, ← HNS.out]
              have : ns.all nameOk = false := by
                rw [List.all_eq_false]; exact ⟨nm, List.mem_of_getElem? HNM.out, by simp [hbb]⟩
              rw [this]; rfl
            clear hbb
            go_wp2
            refine bodyPost_ret (v := .tuple #[.agg #[.int .u8 0, .string ⟨#[]⟩, .int .i64 0, .int .i64 0, .int .i64 0, .string ⟨#[]⟩, .slice none 0 0], .slice none 0 0, .bool false]) (by simp [results, Tryz.results19, go_sem, e0, e1, e2, e3, e4, e5, e6]) rfl (line_no HR.out (below7 (unhide HB2) (Nat.le_refl _)))
          · have HAN : Hid ((ns.take (k + 1)).all nameOk = true) := by
              obtain ⟨hl, he⟩ := List.getElem?_eq_some_iff.1 HNM.out
              unfold Hid
              rw [List.take_succ_eq_append_getElem hl, he, List.all_append, HAL.out]; simp [hbb]
            clear hbb
            go_wp2
            go_round
            case rel => exact ⟨k + 1, by omega, by go_num, HAN.out⟩
            case measure => simp [intOf]; omega
        · obtain rfl : k = ns.length := by omega
          obtain ⟨nm, hnm⟩ : ∃ nm, ns[ns.length - 1]? = some nm := ⟨_, List.getElem?_eq_getElem (by omega)⟩
          have ck := (unhide HX2) _ nm hnm
          have HLN : Hid (nm = lastS y1) := by
            have h := hnm
            rw [HNS.out] at h
            exact last_name h
          have HALL : Hid ((cutS 47 y1).all nameOk = true) := by
            have h := HAL.out
            rw [List.take_length, HNS.out] at h
            exact h
          have HC2 : Hid (r = (fieldsD (y0[0].toNat : Int) (cs.drop 2)).map (fun r => ⟨r, y1⟩)) := by
            unfold Hid; rw [HC.out, HALL.out, HHD.out]; rfl
          clear hnm
          have q1 : g1 < w2.heap.size := by have := (unhide HB21).size; omega
          have q2 : (1 : Int) ≤ (ns.length : Int) := by omega
          have q3 : (ns.length : Int) ≤ 20001 := by omega
          have q4 : (0 : Nat) < y0.size := by omega
          have q5 : w.heap.size < w2.heap.size := (unhide HBX2).lt
          have q6 : w.heap.size < g2 := by have := (unhide HBX1).lt; omega
          have HF : ∀ (W3 : World) (off cp : Nat) (ys : List ByteArray), W3.heap.size = w2.heap.size + 1 → BoxN W3 w2.heap.size (y0[0].toNat : Int) nm 0 0 0 ⟨#[]⟩ (.slice none 0 0) → Below w2.heap.size w2 W3 → (∀ (j : Nat) (x : ByteArray), ys[j]? = some x → w2.cell? ⟨g1, off + j, none⟩ = some (.string x)) → (∀ x ∈ ys, x.size ≤ 20000) → ys.length ≤ 1000000 → Calls Tryz.prog 32 #[.pointer (some ⟨w2.heap.size, 0, none⟩), .slice (some ⟨g1, off, none⟩) ys.length cp] W3 (FieldsPost (fieldsD (y0[0].toNat : Int) ys) w2.heap.size nm 0 (.slice none 0 0) W3) :=
            fun W3 off cp ys _ hb3 hbl3 hy hsz hl => fields_any w2.heap.size g1 off cp ys _ nm 0 _ W3 hb3 q1 (fun j x hj => (hbl3.cell (p := ⟨g1, off + j, none⟩) q1).trans (hy j x hj)) hsz hl
          have HFF := hide HF
          clear HF
          by_cases hcap : cap1 = 2
          · subst hcap
            go_wp2
            go_region
            go_wp2_with fail
            obtain ⟨W3, hW3⟩ : ∃ W3, (w2.alloc (.cells #[.int .u8 (y0[0].toNat : Int), .string nm, .int .i64 0, .int .i64 0, .int .i64 0, .string ⟨#[]⟩, .slice none 0 0] 42)).drew = W3 := ⟨_, rfl⟩
            rw [hW3]
            have hs3 : W3.heap.size = w2.heap.size + 1 := by rw [← hW3]; simp
            have hbx3 : BoxN W3 w2.heap.size (y0[0].toNat : Int) nm 0 0 0 ⟨#[]⟩ (.slice none 0 0) := by rw [← hW3]; exact World.alloc_heap_new w2 _
            have hbl3 : Below w2.heap.size w2 W3 := by rw [← hW3]; exact ((Below.refl _ _).alloc (Nat.le_refl _) _).drew
            have HF2 := (unhide HFF) W3 0 0 [] hs3 hbx3 hbl3 (fun j x hj => by simp at hj) (fun x hx => by cases hx) (by simp)
            rw [List.length_nil] at HF2
            refine HF2.mono ?_
            rintro e w4 ⟨ok, kk, sz, tm, tx, rfl, hbx4, hcase, hb4⟩
            have HCA := hide hcase
            clear hcase
            have hbr4 := ((unhide HBX2).below hbl3 q5).below hb4 q5
            obtain ⟨n0, n1, n2, n3, n4, n5, n6, _⟩ := hbx4.cells
            obtain ⟨r0, r1, r2, r3, r4, r5, r6, rf⟩ := hbr4.cells
            have rf0 := rf 0; have rf1 := rf 1; have rf2 := rf 2; have rf3 := rf 3; have rf4 := rf 4; have rf5 := rf 5; have rf6 := rf 6
            have HROW4 : Hid (StrRow w4.heap.size w4 (.slice (some ⟨g2, 0, none⟩) ns.length cap2) ns) := ((((unhide HROW).below hbl3).below hb4).wider (by have := hbx4.lt; omega))
            have HB4 : Hid (Below w.heap.size w w4) := ((unhide HB2).trans (hbl3.mono (by omega))).trans (hb4.mono (by omega))
            clear hW3 hs3 hbx3 hbl3 HF2 hb4 hbr4 rf e0 e1 e2 e3 e4 e5 e6 f0 f1 f2 f3 f4 f5 f6
            go_wp2
            refine bodyPost_ret (v := .tuple #[.agg #[.int .u8 kk, .string nm, .int .i64 0, .int .i64 sz, .int .i64 tm, .string tx, .slice none 0 0], .slice (some ⟨g2, 0, none⟩) ns.length cap2, .bool ok]) (by simp [results, Tryz.results19, go_sem, r0, r1, r2, r3, r4, r5, r6]) rfl ?_
            refine ⟨⟨kk, nm, 0, sz, tm, tx, []⟩, _, ok, rfl, ?_, below7 (unhide HB4) (Nat.le_refl _)⟩
            rcases HCA.out with ⟨hf, rfl⟩ | ⟨hf, rfl⟩
            · refine .inl ⟨rfl, ⟨(kk, sz, tm, tx), y1⟩, by rw [HC2.out, show cs.drop 2 = [] from List.drop_of_length_le (by omega), hf]; rfl, rfl, HLN.out, HALL.out, ?_⟩
              show StrRow _ _ _ (cutS 47 y1)
              rw [← HNS.out]
              have hne2 : g2 ≠ w.heap.size := by omega
              have := ((((((((unhide HROW4).set (i := 0) (u := .int .u8 kk) hne2).set (i := 1) (u := .string nm) hne2).set (i := 2) (u := .int .i64 0) hne2).set (i := 3) (u := .int .i64 sz) hne2).set (i := 4) (u := .int .i64 tm) hne2).set (i := 5) (u := .string tx) hne2).set (i := 6) (u := .slice none 0 0) hne2)
              exact this.wider (by simp)
            · exact .inr ⟨rfl, by rw [HC2.out, show cs.drop 2 = [] from List.drop_of_length_le (by omega), hf]; rfl⟩
          · have hcc : 2 < cap1 := by omega
            go_wp2
            go_region
            go_wp2_with fail
            obtain ⟨W3, hW3⟩ : ∃ W3, (w2.alloc (.cells #[.int .u8 (y0[0].toNat : Int), .string nm, .int .i64 0, .int .i64 0, .int .i64 0, .string ⟨#[]⟩, .slice none 0 0] 42)).drew = W3 := ⟨_, rfl⟩
            rw [hW3]
            have hs3 : W3.heap.size = w2.heap.size + 1 := by rw [← hW3]; simp
            have hbx3 : BoxN W3 w2.heap.size (y0[0].toNat : Int) nm 0 0 0 ⟨#[]⟩ (.slice none 0 0) := by rw [← hW3]; exact World.alloc_heap_new w2 _
            have hbl3 : Below w2.heap.size w2 W3 := by rw [← hW3]; exact ((Below.refl _ _).alloc (Nat.le_refl _) _).drew
            have HF2 := (unhide HFF) W3 2 (cap1 - 2) (cs.drop 2) hs3 hbx3 hbl3 (fun j x hj => (unhide HX12) (2 + j) x (by rw [List.getElem?_drop] at hj; exact hj)) (fun x hx => Nat.le_trans ((unhide HP9) x (List.mem_of_mem_drop hx)) hs) (by rw [List.length_drop]; omega)
            rw [List.length_drop] at HF2
            refine HF2.mono ?_
            rintro e w4 ⟨ok, kk, sz, tm, tx, rfl, hbx4, hcase, hb4⟩
            have HCA := hide hcase
            clear hcase
            have hbr4 := ((unhide HBX2).below hbl3 q5).below hb4 q5
            obtain ⟨n0, n1, n2, n3, n4, n5, n6, _⟩ := hbx4.cells
            obtain ⟨r0, r1, r2, r3, r4, r5, r6, rf⟩ := hbr4.cells
            have rf0 := rf 0; have rf1 := rf 1; have rf2 := rf 2; have rf3 := rf 3; have rf4 := rf 4; have rf5 := rf 5; have rf6 := rf 6
            have HROW4 : Hid (StrRow w4.heap.size w4 (.slice (some ⟨g2, 0, none⟩) ns.length cap2) ns) := ((((unhide HROW).below hbl3).below hb4).wider (by have := hbx4.lt; omega))
            have HB4 : Hid (Below w.heap.size w w4) := ((unhide HB2).trans (hbl3.mono (by omega))).trans (hb4.mono (by omega))
            clear hW3 hs3 hbx3 hbl3 HF2 hb4 hbr4 rf e0 e1 e2 e3 e4 e5 e6 f0 f1 f2 f3 f4 f5 f6
            go_wp2
            refine bodyPost_ret (v := .tuple #[.agg #[.int .u8 kk, .string nm, .int .i64 0, .int .i64 sz, .int .i64 tm, .string tx, .slice none 0 0], .slice (some ⟨g2, 0, none⟩) ns.length cap2, .bool ok]) (by simp [results, Tryz.results19, go_sem, r0, r1, r2, r3, r4, r5, r6]) rfl ?_
            refine ⟨⟨kk, nm, 0, sz, tm, tx, []⟩, _, ok, rfl, ?_, below7 (unhide HB4) (Nat.le_refl _)⟩
            rcases HCA.out with ⟨hf, rfl⟩ | ⟨hf, rfl⟩
            · refine .inl ⟨rfl, ⟨(kk, sz, tm, tx), y1⟩, by rw [HC2.out, hf]; rfl, rfl, HLN.out, HALL.out, ?_⟩
              show StrRow _ _ _ (cutS 47 y1)
              rw [← HNS.out]
              have hne2 : g2 ≠ w.heap.size := by omega
              have := ((((((((unhide HROW4).set (i := 0) (u := .int .u8 kk) hne2).set (i := 1) (u := .string nm) hne2).set (i := 2) (u := .int .i64 0) hne2).set (i := 3) (u := .int .i64 sz) hne2).set (i := 4) (u := .int .i64 tm) hne2).set (i := 5) (u := .string tx) hne2).set (i := 6) (u := .slice none 0 0) hne2)
              exact this.wider (by simp)
            · exact .inr ⟨rfl, by rw [HC2.out, hf]; rfl⟩
    · have hyb : ((y0.size : Int) != 1) = true := by rw [bne_iff_ne]; omega
      have HR : Hid (r = none) := by
        unfold Hid; rw [HC.out, head_no hy]
        cases (cutS 47 y1).all nameOk <;> rfl
      have f0 := bf 0; have f1 := bf 1; have f2 := bf 2; have f3 := bf 3; have f4 := bf 4; have f5 := bf 5; have f6 := bf 6
      clear hp9 hx1 bf hy0 hy1
      go_wp2
      refine bodyPost_ret (v := .tuple #[.agg #[.int .u8 0, .string ⟨#[]⟩, .int .i64 0, .int .i64 0, .int .i64 0, .string ⟨#[]⟩, .slice none 0 0], .slice none 0 0, .bool false]) (by simp [results, Tryz.results19, go_sem, b0, b1, b2, b3, b4, b5, b6]) rfl (line_no HR.out (below7 hB1 (Nat.le_refl _)))
end Go.Proofs.YtfemboojdablhaaGreatDoor.Tre
namespace Go.Proofs.YtfemboojdablhaaGreatDoor.Tre
def sumK (L : List NodeD) : Nat := (L.map (fun n => n.kids.length)).sum
theorem sum_set (l : List Nat) : ∀ (i : Nat) (x y : Nat), l[i]? = some x → (l.set i y).sum + x = l.sum + y := by
  induction l with
  | nil => intro i x y h; simp at h
  | cons a l ih =>
    intro i x y h
    cases i with
    | zero => simp at h; subst h; simp; omega
    | succ i => rw [List.getElem?_cons_succ] at h; have := ih i x y h; simp; omega
theorem sumK_add {L : List NodeD} {a : Nat} {d n : NodeD} {c : Nat} (hd : L[a]? = some d) (hn : n.kids = []) (h : sumK L + 1 = L.length) : sumK (addD L a d n (d.kids ++ [c])) + 1 = (addD L a d n (d.kids ++ [c])).length := by
  have hlt := (List.getElem?_eq_some_iff.1 hd).1
  unfold sumK addD at *
  rw [List.map_set, List.length_set]
  have e : ((L ++ [n]).map (fun n => n.kids.length))[a]? = some d.kids.length := by
    rw [List.getElem?_map, List.getElem?_append_left hlt, hd]; rfl
  have := sum_set _ a d.kids.length (d.kids ++ [c]).length e
  rw [List.map_append, List.sum_append] at this
  simp only [List.map_cons, List.map_nil, List.sum_cons, List.sum_nil, hn, List.length_nil, List.length_append, List.length_cons] at this
  simp only [List.map_append, List.map_cons, List.map_nil, List.length_append, List.length_cons, List.length_nil, hn] at this ⊢
  omega
theorem put_sum {L L' : List NodeD} {K K' : List ByteArray} {ln : LineD} (h : sumK L + 1 = L.length) (e : putD L K ln = .yes L' K') : sumK L' + 1 = L'.length := by
  unfold putD at e
  split at e
  · cases e
  · split at e
    · cases e
    · rename_i a ha d hd
      split at e
      · cases e
      · split at e
        · cases e
        · cases e
          exact sumK_add hd rfl h
theorem put_no {L : List NodeD} {K : List ByteArray} {ln : LineD} {e : Int} (h : putD L K ln = .no e) : e ≠ 0 := by
  unfold putD at h
  split at h
  · cases h; omega
  · split at h
    · cases h; omega
    · split at h
      · cases h; omega
      · split at h
        · cases h; omega
        · cases h
def Told (r : Res) : Prop := (r.2.1 = 0 ∧ (∃ K, KInv r.1 K) ∧ sumK r.1 + 1 = r.1.length) ∨ (r.1 = [] ∧ r.2.1 ≠ 0)
theorem goL_told (ys : List ByteArray) : ∀ (pl : Int) (L : List NodeD) (K : List ByteArray), KInv L K → sumK L + 1 = L.length → (∀ y ∈ ys, y.size ≤ 20000) → Told (goL ys pl L K) := by
  induction ys with
  | nil => intro pl L K h h2 _; unfold goL; exact .inl ⟨rfl, ⟨K, h⟩, h2⟩
  | cons y ys ih =>
    intro pl L K h h2 hy
    unfold goL
    split
    · split
      · exact .inl ⟨rfl, ⟨K, h⟩, h2⟩
      · exact .inr ⟨rfl, by dsimp only; omega⟩
    · split
      · exact .inr ⟨rfl, by dsimp only; omega⟩
      · rename_i ln hl
        split
        · exact .inr ⟨rfl, by dsimp only; omega⟩
        · rename_i hlim
          split
          · rename_i e he
            exact .inr ⟨rfl, put_no he⟩
          · rename_i L' K' he
            obtain ⟨g1, g2, _⟩ := line_facts hl
            have hys := hy y (by simp)
            exact ih _ L' K' (put_inv h g1 (by omega) (by omega) he).1 (put_sum h2 he) (fun z hz => hy z (by simp [hz]))
theorem loadD_told (s : ByteArray) : Told (loadD s) := by
  unfold loadD
  split
  · exact .inr ⟨rfl, by dsimp only; omega⟩
  · exact goL_told _ _ _ _ kinv_root rfl (fun y hy => Nat.le_trans (cutS_le 10 s y hy) (by omega))
end Go.Proofs.YtfemboojdablhaaGreatDoor.Tre
