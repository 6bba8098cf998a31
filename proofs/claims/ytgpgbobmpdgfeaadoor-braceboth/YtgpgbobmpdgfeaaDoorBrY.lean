/- The document's Decimal and a row's texts. -/
import Derived.Test.YtgpgbobmpdgfeaaDoorBrU
namespace Go.Proofs.YtgpgbobmpdgfeaaDoor
open Go.RowKit Go.Shelf

theorem dig_toNat {x : Nat} (h : x ≤ 9) : (UInt8.ofNat (48 + x)).toNat = 48 + x := by
  rw [UInt8.toNat_ofNat']
  omega
theorem conv_one (W : World) (x : Int) (h0 : 0 ≤ x) (h9 : x ≤ 9) : (convert 60 9 (.slice (some ⟨W.heap.size, 0, none⟩) 1 1)).run Tryd.prog (W.alloc (.cells #[.int .u8 (48 + x)] 5)) = .ok (.string (bs [UInt8.ofNat (48 + x.toNat)])) (W.alloc (.cells #[.int .u8 (48 + x)] 5)) := by
  refine run_convert_bytes_back _ 60 9 5 ⟨W.heap.size, 0, none⟩ 1 [UInt8.ofNat (48 + x.toNat)] u60 u5' u9' fun j hj => ?_
  have hj0 : j = 0 := by simp at hj; exact hj
  subst hj0
  have e : ((UInt8.ofNat (48 + x.toNat)).toNat : Int) = 48 + x := by rw [dig_toNat (by omega)]; omega
  have := (Boxed.new W 5 (.int .u8 (48 + x))).cell
  rw [show ((⟨W.heap.size, 0, none⟩ : Addr).add 0) = ⟨W.heap.size, 0, none⟩ from rfl, this]
  show some (Value.int .u8 (48 + x)) = some (.int .u8 ((UInt8.ofNat (48 + x.toNat)).toNat : Int))
  rw [e]
set_option maxRecDepth 100000 in
set_option maxHeartbeats 2000000 in
theorem decimal_any : ∀ (u : Nat) (w : World), u ≤ 999999999 → Calls Tryd.prog 29 #[.int .i64 (u : Int)] w fun e w' => e = .returned (.string (bs (Lib.decDigits u))) ∧ Below w.heap.size w w' := by
  intro u
  induction u using Nat.strongRecOn with
  | _ u ih =>
    intro w hu
    by_cases h10 : u < 10
    · have HD : Hid (Lib.decDigits u = [UInt8.ofNat (48 + u)]) := by unfold Hid; rw [Lib.decDigits, dif_pos h10]
      have hI : (u : Int) < 10 := by omega
      have hn0 : ¬ (u : Int) < 0 := by omega
      obtain ⟨dd, hdd, hcv⟩ : ∃ dd, Hid (dd = bs [UInt8.ofNat (48 + u)]) ∧ (convert 60 9 (.slice (some ⟨w.heap.size, 0, none⟩) 1 1)).run Tryd.prog (w.alloc (.cells #[.int .u8 (48 + (u : Int))] 5)) = .ok (.string dd) (w.alloc (.cells #[.int .u8 (48 + (u : Int))] 5)) := ⟨_, rfl, conv_one w (u : Int) (by omega) (by omega)⟩
      have HB : Hid (Below w.heap.size w (w.alloc (.cells #[.int .u8 (48 + (u : Int))] 5))) := (Below.refl _ _).alloc (Nat.le_refl _) _
      go_enter Tryd.func29, Tryd.ntmps29
      go_wp2
      go_ret
      refine ⟨?_, HB.out⟩
      rw [HD.out]
      rw [← hdd.out]
      rfl
    · have HD : Hid (Lib.decDigits u = Lib.decDigits (u / 10) ++ [UInt8.ofNat (48 + u % 10)]) := by unfold Hid; rw [Lib.decDigits, dif_neg h10]
      have hI : ¬ (u : Int) < 10 := by omega
      have hn0 : ¬ (u : Int) < 0 := by omega
      have IH : Hid (Calls Tryd.prog 29 #[.int .i64 ((u : Int) / 10)] w fun e w' => e = .returned (.string (bs (Lib.decDigits (u / 10)))) ∧ Below w.heap.size w w') := ih (u / 10) (by omega) w (by omega)
      clear ih
      go_enter Tryd.func29, Tryd.ntmps29
      go_wp2_with fail
      refine (unhide IH).mono ?_
      rintro e w1 ⟨rfl, hb1⟩
      obtain ⟨dd, hdd, hcv⟩ : ∃ dd, Hid (dd = bs [UInt8.ofNat (48 + u % 10)]) ∧ (convert 60 9 (.slice (some ⟨w1.heap.size, 0, none⟩) 1 1)).run Tryd.prog (w1.alloc (.cells #[.int .u8 (48 + (u : Int) % 10)] 5)) = .ok (.string dd) (w1.alloc (.cells #[.int .u8 (48 + (u : Int) % 10)] 5)) := by
        refine ⟨_, ?_, conv_one w1 ((u : Int) % 10) (by omega) (by omega)⟩
        show bs [UInt8.ofNat (48 + ((u : Int) % 10).toNat)] = bs [UInt8.ofNat (48 + u % 10)]
        rw [show ((u : Int) % 10).toNat = u % 10 by omega]
      have hdl : (Lib.decDigits (u / 10)).length ≤ 9 := dec_len 8 _ (Nat.lt_of_le_of_lt (m := 999999999) (by omega) (by decide))
      obtain ⟨tt, htt⟩ : ∃ tt, tt = bs (Lib.decDigits (u / 10)) := ⟨_, rfl⟩
      rw [← htt]
      have htl : tt.size ≤ 9 := by rw [htt, bs_size]; exact hdl
      have hds : dd.size = 1 := by rw [hdd.out]; rfl
      have HTT := hide htt
      clear htt hdl
      have HB : Hid (Below w.heap.size w (w1.alloc (.cells #[.int .u8 (48 + (u : Int) % 10)] 5))) := hb1.alloc hb1.size _
      have HS : Hid (tt ++ dd = bs (Lib.decDigits u)) := by
        unfold Hid
        rw [HTT.out, hdd.out, bs_add, HD.out]
      go_wp2
      go_ret
      refine ⟨?_, HB.out⟩
      rw [← HS.out]
      rfl
set_option maxRecDepth 100000 in
set_option maxHeartbeats 2000000 in
theorem dec29_any (n : Int) (h : -1000000 ≤ n ∧ n ≤ 1000000) (w : World) : Calls Tryd.prog 29 #[.int .i64 n] w fun e w' => e = .returned (.string (bs (decB n))) ∧ Below w.heap.size w w' := by
  by_cases h0 : n < 0
  · have hd := decimal_any n.natAbs w (by omega)
    have he : ((n.natAbs : Nat) : Int) = -n := by omega
    rw [he] at hd
    have hdl : (Lib.decDigits n.natAbs).length ≤ 9 := dec_len 8 _ (Nat.lt_of_le_of_lt (m := 999999999) (by omega) (by decide))
    have HD : Hid (⟨#[45]⟩ ++ bs (Lib.decDigits n.natAbs) = bs (decB n)) := by
      show bs [45] ++ bs (Lib.decDigits n.natAbs) = bs (decB n)
      rw [bs_add]
      unfold decB Lib.itoa
      rw [if_pos h0]
      rfl
    obtain ⟨tt, htt⟩ : ∃ tt, bs (Lib.decDigits n.natAbs) = tt := ⟨_, rfl⟩
    have hz : tt.size ≤ 9 := by rw [← htt, bs_size]; exact hdl
    rw [htt] at hd HD
    clear htt hdl he
    go_enter Tryd.func29, Tryd.ntmps29
    go_wp2_with fail
    refine hd.mono ?_
    rintro e w1 ⟨rfl, hb1⟩
    go_wp2
    go_ret
    refine ⟨?_, hb1⟩
    rw [← HD.out]
    rfl
  · have hd := decimal_any n.toNat w (by omega)
    have he : ((n.toNat : Nat) : Int) = n := by omega
    rw [he] at hd
    have : decB n = Lib.decDigits n.toNat := by unfold decB Lib.itoa; rw [if_neg h0]
    rw [this]
    exact hd
end Go.Proofs.YtgpgbobmpdgfeaaDoor
