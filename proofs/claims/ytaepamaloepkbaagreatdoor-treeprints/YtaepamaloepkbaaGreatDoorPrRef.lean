/- The reference's own functions of printing: shown, Decimal. -/
import Derived.Test.YtaepamaloepkbaaGreatDoorPrPlain
import Derived.Deep.AppendLies
namespace Go.Proofs.YtaepamaloepkbaaGreatDoor
open Go.RowKit

theorem u8s_push2 {B : Nat} {w1 : World} {v' : Value} {xs : List UInt8} {x y : UInt8} (h : w1.ownsRow B 5 1 v' (xs.length + 2) (u8s xs ++ [Value.int .u8 (x.toNat : Int), Value.int .u8 (y.toNat : Int)])) :
    w1.ownsRow B 5 1 v' (xs ++ [x, y]).length (u8s (xs ++ [x, y])) := by
  unfold u8s at h ⊢
  rw [List.length_append, List.map_append]; exact h
/-- k bytes have been written, as xs. -/
def EscSt (s : ByteArray) (k : Nat) (xs : List UInt8) : Prop := xs = escL (s.data.toList.take k)
theorem esc_snoc (l : List UInt8) (c : UInt8) : escL (l ++ [c]) = escL l ++ escB c := by simp [escL]
theorem escSt_step {s : ByteArray} {k : Nat} {xs : List UInt8} (h : EscSt s k xs) (hk : k < s.size) : EscSt s (k + 1) (xs ++ escB s[k]) := by
  unfold EscSt at h ⊢
  rw [take_snoc s k hk, esc_snoc, h]
theorem escSt_len {s : ByteArray} {k : Nat} {xs : List UInt8} (h : EscSt s k xs) : xs.length ≤ 2 * k := by
  unfold EscSt at h
  rw [h]
  refine Nat.le_trans (esc_len _) ?_
  have := List.length_take_le k s.data.toList
  omega
theorem escSt_end {s : ByteArray} {xs : List UInt8} (h : EscSt s s.size xs) : xs = escL s.data.toList := by
  unfold EscSt at h
  rw [h, List.take_of_length_le (by rw [len_data]; exact Nat.le_refl _)]
theorem esc92 {c : UInt8} (h : c = 92) : escB c = [92, 92] := by unfold escB; rw [if_pos h]
theorem esc9 {c : UInt8} (h : c = 9) : escB c = [92, 116] := by subst h; rfl
theorem esc10 {c : UInt8} (h : c = 10) : escB c = [92, 110] := by subst h; rfl
theorem esc0 {c : UInt8} (h : c = 0) : escB c = [92, 48] := by subst h; rfl
theorem escNo {c : UInt8} (h1 : ¬ c = 92) (h2 : ¬ c = 9) (h3 : ¬ c = 10) (h4 : ¬ c = 0) : escB c = [c] := by unfold escB; rw [if_neg h1, if_neg h2, if_neg h3, if_neg h4]

set_option maxRecDepth 100000 in
set_option maxHeartbeats 2000000 in
theorem shown_any (s : ByteArray) (w : World) (hs : s.size ≤ 1000000) :
    Calls Tryz.prog 32 #[.string s] w fun e w' => e = .returned (.string (bs (escL s.data.toList))) ∧ Below w.heap.size w w' := by
  obtain ⟨i0, hi, hz0, hz1, hz2⟩ := info_parts Tryz.info5
  go_enter Tryz.func32, Tryz.ntmps32
  go_wp2
  go_loopw [3, 4] (fun v r wr => ∃ (k : Nat) (xs : List UInt8), k ≤ s.size ∧ r = .int .i64 k ∧ wr.ownsRow w.heap.size 5 1 v xs.length (u8s xs) ∧ Below w.heap.size w wr ∧ EscSt s k xs) (fun _ r _ => s.size - (intOf r).toNat)
  case atStart => exact ⟨0, [], Nat.zero_le _, rfl, World.ownsRow_nil _ _ _ _, Below.refl _ _, rfl⟩
  case round =>
    obtain ⟨k, xs, hk, rfl, hown, hnx, hst⟩ := hrel
    have hxl := escSt_len hst
    by_cases hlt : k < s.size
    · have HX := hide (escSt_step hst hlt)
      clear hst
      cases c92 : ((s[k].toNat : Int) == 92)
      · cases c9 : ((s[k].toNat : Int) == 9)
        · cases c10 : ((s[k].toNat : Int) == 10)
          · cases c0 : ((s[k].toNat : Int) == 0)
            · rw [escNo (byte_not (n := 92) c92 (by omega)) (byte_not (n := 9) c9 (by omega)) (byte_not (n := 10) c10 (by omega)) (byte_not (n := 0) c0 (by omega))] at HX
              go_wp2_with (at_builtin; refine wpList_append_own _ rfl _ _ 63 rfl w.heap.size 5 i0 (.int .u8 0) 1 1 Tryz.underlying63 hi hz0 hz1 hz2 rfl (by decide) _ _ _ rfl (hown.alloc _) ⟨wr.heap.size, 0, none⟩ 1 1 [.int .u8 (s[k].toNat : Int)] rfl rfl (cell_one_new _ _ _) (by simp [Value.oneCell']) (by unfold maxLen; omega) (by omega) (by have := hnx.size; simp; omega) ?_; intro v' w1 hown' hgrow _)
              have HB := below_own hnx.size hnx hown hgrow
              go_roundw
              case rel => exact ⟨k + 1, _, by omega, by go_num, u8s_push hown', HB, HX.out⟩
              case measure => simp [intOf]; omega
            · rw [esc0 (byte_is (n := 0) c0 (by omega))] at HX
              go_wp2_with (at_builtin; refine wpList_append_own _ rfl _ _ 63 rfl w.heap.size 5 i0 (.int .u8 0) 1 1 Tryz.underlying63 hi hz0 hz1 hz2 rfl (by decide) _ _ _ rfl (hown.alloc _) ⟨wr.heap.size, 0, none⟩ 2 2 [.int .u8 92, .int .u8 48] rfl rfl (World.news_of_block (cs := #[.int .u8 92, .int .u8 48]) (World.alloc_heap_new wr _)) (by simp [Value.oneCell']) (by unfold maxLen; omega) (by omega) (by have := hnx.size; simp; omega) ?_; intro v' w1 hown' hgrow _)
              have HB := below_own hnx.size hnx hown hgrow
              go_roundw
              case rel => exact ⟨k + 1, _, by omega, by go_num, u8s_push2 (x := 92) (y := 48) hown', HB, HX.out⟩
              case measure => simp [intOf]; omega
          · rw [esc10 (byte_is (n := 10) c10 (by omega))] at HX
            go_wp2_with (at_builtin; refine wpList_append_own _ rfl _ _ 63 rfl w.heap.size 5 i0 (.int .u8 0) 1 1 Tryz.underlying63 hi hz0 hz1 hz2 rfl (by decide) _ _ _ rfl (hown.alloc _) ⟨wr.heap.size, 0, none⟩ 2 2 [.int .u8 92, .int .u8 110] rfl rfl (World.news_of_block (cs := #[.int .u8 92, .int .u8 110]) (World.alloc_heap_new wr _)) (by simp [Value.oneCell']) (by unfold maxLen; omega) (by omega) (by have := hnx.size; simp; omega) ?_; intro v' w1 hown' hgrow _)
            have HB := below_own hnx.size hnx hown hgrow
            go_roundw
            case rel => exact ⟨k + 1, _, by omega, by go_num, u8s_push2 (x := 92) (y := 110) hown', HB, HX.out⟩
            case measure => simp [intOf]; omega
        · rw [esc9 (byte_is (n := 9) c9 (by omega))] at HX
          go_wp2_with (at_builtin; refine wpList_append_own _ rfl _ _ 63 rfl w.heap.size 5 i0 (.int .u8 0) 1 1 Tryz.underlying63 hi hz0 hz1 hz2 rfl (by decide) _ _ _ rfl (hown.alloc _) ⟨wr.heap.size, 0, none⟩ 2 2 [.int .u8 92, .int .u8 116] rfl rfl (World.news_of_block (cs := #[.int .u8 92, .int .u8 116]) (World.alloc_heap_new wr _)) (by simp [Value.oneCell']) (by unfold maxLen; omega) (by omega) (by have := hnx.size; simp; omega) ?_; intro v' w1 hown' hgrow _)
          have HB := below_own hnx.size hnx hown hgrow
          go_roundw
          case rel => exact ⟨k + 1, _, by omega, by go_num, u8s_push2 (x := 92) (y := 116) hown', HB, HX.out⟩
          case measure => simp [intOf]; omega
      · rw [esc92 (byte_is (n := 92) c92 (by omega))] at HX
        go_wp2_with (at_builtin; refine wpList_append_own _ rfl _ _ 63 rfl w.heap.size 5 i0 (.int .u8 0) 1 1 Tryz.underlying63 hi hz0 hz1 hz2 rfl (by decide) _ _ _ rfl (hown.alloc _) ⟨wr.heap.size, 0, none⟩ 2 2 [.int .u8 92, .int .u8 92] rfl rfl (World.news_of_block (cs := #[.int .u8 92, .int .u8 92]) (World.alloc_heap_new wr _)) (by simp [Value.oneCell']) (by unfold maxLen; omega) (by omega) (by have := hnx.size; simp; omega) ?_; intro v' w1 hown' hgrow _)
        have HB := below_own hnx.size hnx hown hgrow
        go_roundw
        case rel => exact ⟨k + 1, _, by omega, by go_num, u8s_push2 (x := 92) (y := 92) hown', HB, HX.out⟩
        case measure => simp [intOf]; omega
    · obtain rfl : k = s.size := by omega
      have hcv := back_any hown
      have HE := hide (escSt_end hst)
      clear hst hown
      go_wp2
      go_ret
      exact ⟨by rw [← HE.out]; rfl, hnx⟩

/-- A digit as a text. -/
theorem conv_one (W : World) (x : Int) (h0 : 0 ≤ x) (h9 : x ≤ 9) : (convert 63 9 (.slice (some ⟨W.heap.size, 0, none⟩) 1 1)).run Tryz.prog (W.alloc (.cells #[.int .u8 (48 + x)] 5)) = .ok (.string (bs [UInt8.ofNat (48 + x.toNat)])) (W.alloc (.cells #[.int .u8 (48 + x)] 5)) := by
  refine run_convert_bytes_back _ 63 9 5 ⟨W.heap.size, 0, none⟩ 1 [UInt8.ofNat (48 + x.toNat)] Tryz.underlying63 Tryz.underlying5 Tryz.underlying9 fun j hj => ?_
  have hj0 : j = 0 := by simp at hj; exact hj
  subst hj0
  have e : ((UInt8.ofNat (48 + x.toNat)).toNat : Int) = 48 + x := by rw [dig_toNat (by omega)]; omega
  have := cell_one_new W (.int .u8 (48 + x)) 5 0 _ rfl
  rw [this]
  show some (Value.int .u8 (48 + x)) = some (.int .u8 ((UInt8.ofNat (48 + x.toNat)).toNat : Int))
  rw [e]
theorem bs_app (a b : List UInt8) : bs a ++ bs b = bs (a ++ b) := bs_inj (by rw [data_bs, ByteArray.data_append, Array.toList_append, data_bs, data_bs])
set_option maxRecDepth 100000 in
set_option maxHeartbeats 2000000 in
theorem decimal_any : ∀ (u : Nat) (w : World), u ≤ 999999999 → Calls Tryz.prog 33 #[.int .i64 (u : Int)] w fun e w' => e = .returned (.string (bs (Lib.decDigits u))) ∧ Below w.heap.size w w' := by
  intro u
  induction u using Nat.strongRecOn with
  | _ u ih =>
    intro w hu
    by_cases h10 : u < 10
    · have HD : Hid (Lib.decDigits u = [UInt8.ofNat (48 + u)]) := by unfold Hid; rw [Lib.decDigits, dif_pos h10]
      have hI : (u : Int) < 10 := by omega
      have hn0 : ¬ (u : Int) < 0 := by omega
      obtain ⟨dd, hdd, hcv⟩ : ∃ dd, Hid (dd = bs [UInt8.ofNat (48 + u)]) ∧ (convert 63 9 (.slice (some ⟨w.heap.size, 0, none⟩) 1 1)).run Tryz.prog (w.alloc (.cells #[.int .u8 (48 + (u : Int))] 5)) = .ok (.string dd) (w.alloc (.cells #[.int .u8 (48 + (u : Int))] 5)) := ⟨_, rfl, conv_one w (u : Int) (by omega) (by omega)⟩
      have HB : Hid (Below w.heap.size w (w.alloc (.cells #[.int .u8 (48 + (u : Int))] 5))) := (Below.refl _ _).alloc (Nat.le_refl _) _
      go_enter Tryz.func33, Tryz.ntmps33
      go_wp2
      go_ret
      exact ⟨ret_str (by rw [HD.out]; exact hdd.out), HB.out⟩
    · have HD : Hid (Lib.decDigits u = Lib.decDigits (u / 10) ++ [UInt8.ofNat (48 + u % 10)]) := by unfold Hid; rw [Lib.decDigits, dif_neg h10]
      have hI : ¬ (u : Int) < 10 := by omega
      have hn0 : ¬ (u : Int) < 0 := by omega
      have IH : Hid (Calls Tryz.prog 33 #[.int .i64 ((u : Int) / 10)] w fun e w' => e = .returned (.string (bs (Lib.decDigits (u / 10)))) ∧ Below w.heap.size w w') := ih (u / 10) (by omega) w (by omega)
      clear ih
      go_enter Tryz.func33, Tryz.ntmps33
      go_wp2_with fail
      refine (unhide IH).mono ?_
      rintro e w1 ⟨rfl, hb1⟩
      obtain ⟨dd, hdd, hcv⟩ : ∃ dd, Hid (dd = bs [UInt8.ofNat (48 + u % 10)]) ∧ (convert 63 9 (.slice (some ⟨w1.heap.size, 0, none⟩) 1 1)).run Tryz.prog (w1.alloc (.cells #[.int .u8 (48 + (u : Int) % 10)] 5)) = .ok (.string dd) (w1.alloc (.cells #[.int .u8 (48 + (u : Int) % 10)] 5)) := ⟨_, by show bs [UInt8.ofNat (48 + ((u : Int) % 10).toNat)] = _; rw [show ((u : Int) % 10).toNat = u % 10 from by omega], conv_one w1 ((u : Int) % 10) (by omega) (by omega)⟩
      have hdl : (Lib.decDigits (u / 10)).length ≤ 9 := dec_len 8 (Nat.lt_of_le_of_lt (m := 999999999) (by omega) (by decide))
      obtain ⟨tt, htt⟩ : ∃ tt, tt = bs (Lib.decDigits (u / 10)) := ⟨_, rfl⟩
      rw [← htt]
      have htl : tt.size ≤ 9 := by rw [htt, ← len_data, data_bs]; exact hdl
      have hds : dd.size = 1 := by rw [hdd.out]; rfl
      have HTT := hide htt
      clear htt hdl
      have HB : Hid (Below w.heap.size w (w1.alloc (.cells #[.int .u8 (48 + (u : Int) % 10)] 5))) := hb1.alloc hb1.size _
      have HS : Hid (tt ++ dd = bs (Lib.decDigits u)) := by
        unfold Hid
        rw [HTT.out, hdd.out, bs_app, HD.out]
      go_wp2
      go_ret
      exact ⟨ret_str HS.out, HB.out⟩
end Go.Proofs.YtaepamaloepkbaaGreatDoor
