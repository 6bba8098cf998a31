/- strings.TrimRight and LastIndexByte at '/', path.Base, the reference's Base. -/
import Derived.Test.YtfemboojdablhaaGreatDoorLast
import Derived.Lib.Walk
namespace Go.Proofs.YtfemboojdablhaaGreatDoor
open Go.RowKit

theorem ret_str {a b : ByteArray} (h : a = b) : Ending.returned (.string a) = .returned (.string b) := by rw [h]
def strLen : Value → Nat
  | .string r => r.size
  | _ => 0
theorem trim_step {r : ByteArray} (h : 1 ≤ r.size) (hc : (r[r.size - 1].toNat : Int) = 47) : trimR (r.extract 0 (r.size - 1)).data.toList = trimR r.data.toList := by
  have e : r.data.toList = (r.extract 0 (r.size - 1)).data.toList ++ [47] := by
    rw [extract_bs, data_bs, List.drop_zero, Nat.sub_zero]
    have h2 := List.take_append_drop (r.size - 1) r.data.toList
    rw [drop_get r (r.size - 1) (by omega), List.drop_of_length_le (by simp; omega)] at h2
    have h3 : r[r.size - 1] = 47 := UInt8.toNat_inj.1 (by have : (47 : UInt8).toNat = 47 := rfl; omega)
    rw [h3] at h2
    exact h2.symm
  rw [e, trimR_snoc]
theorem trim_stop {r : ByteArray} (h : r.size = 0 ∨ ∃ h : 1 ≤ r.size, ¬ (r[r.size - 1].toNat : Int) = 47) : trimR r.data.toList = r.data.toList := by
  rcases h with h | ⟨h, hc⟩
  · have : r.data.toList = [] := List.eq_nil_of_length_eq_zero (by simp [h])
    rw [this]; rfl
  · have h2 := List.take_append_drop (r.size - 1) r.data.toList
    rw [drop_get r (r.size - 1) (by omega), List.drop_of_length_le (by simp; omega)] at h2
    rw [← h2]
    exact trimR_keep _ _ (fun e => hc (by rw [e]; rfl))

set_option maxHeartbeats 1000000 in
theorem trimByte_any (s : ByteArray) (w : World) (hs : s.size ≤ 1073741824) :
    Calls Tryz.prog 159 #[.string s, .int .u8 47] w fun e w' => e = .returned (.string (trimS s)) ∧ w' = w := by
  go_enter Tryz.func159, Tryz.ntmps159
  go_wp2
  go_loop [0] (fun v => ∃ r : ByteArray, v = .string r ∧ r.size ≤ s.size ∧ trimR r.data.toList = trimR s.data.toList) (fun v => strLen v)
  case atStart => exact ⟨s, rfl, Nat.le_refl _, rfl⟩
  case round =>
    obtain ⟨r, rfl, hrs, htr⟩ := hrel
    have HT : Hid (trimR r.data.toList = trimR s.data.toList) := htr
    clear htr
    by_cases h0 : r.size = 0
    · have hz : ¬ (0 : Int) < (r.size : Int) := by omega
      have HR : Hid (r = trimS s) := by
        unfold Hid trimS; rw [← HT.out, trim_stop (.inl h0), bs_data]
      go_wp2
      go_ret
      exact ⟨ret_str HR.out, rfl⟩
    · have hz : (0 : Int) < (r.size : Int) := by omega
      have h1 : 1 ≤ r.size := by omega
      by_cases hc : (r[r.size - 1].toNat : Int) = 47
      · have hb : ((r[r.size - 1].toNat : Int) == 47) = true := by rw [beq_iff_eq]; exact hc
        have HN : Hid (trimR (r.extract 0 (r.size - 1)).data.toList = trimR s.data.toList) := by unfold Hid; rw [trim_step h1 hc, HT.out]
        clear hc
        go_wp2
        go_round
        case rel => exact ⟨_, rfl, by simp; omega, HN.out⟩
        case measure => simp [strLen]; omega
      · have hb : ((r[r.size - 1].toNat : Int) == 47) = false := by rw [beq_eq_false_iff_ne]; exact hc
        have HR : Hid (r = trimS s) := by
          unfold Hid trimS; rw [← HT.out, trim_stop (.inr ⟨h1, hc⟩), bs_data]
        clear hc
        go_wp2
        go_ret
        exact ⟨ret_str HR.out, rfl⟩

theorem emp_no {s : ByteArray} (h : 1 ≤ s.size) : s.toList.isEmpty = false := by
  cases hE : s.toList.isEmpty
  · rfl
  · exfalso
    rw [ByteArray.toList_eq] at hE
    have h2 := size_list s
    rw [List.isEmpty_iff.1 hE] at h2
    simp at h2; omega
theorem emp_yes {s : ByteArray} (h : s.size = 0) : s.toList.isEmpty = true := by
  have h2 := size_list s
  rw [h] at h2
  rw [ByteArray.toList_eq, List.isEmpty_iff]
  exact List.eq_nil_of_length_eq_zero h2
theorem emp_size {s : ByteArray} (h : s.toList.isEmpty = true) : s.size = 0 := by
  by_cases h0 : s.size = 0
  · exact h0
  · rw [emp_no (by omega)] at h; cases h
theorem emp_size_no {s : ByteArray} (h : s.toList.isEmpty = false) : 1 ≤ s.size := by
  by_cases h0 : s.size = 0
  · rw [emp_yes h0] at h; cases h
  · omega
theorem trim_empty {s : ByteArray} (h : s.size = 0) : trimS s = s := by
  unfold trimS; rw [trim_stop (.inl h), bs_data]
theorem trim_size (n : Nat) : ∀ l : List UInt8, l.length = n → (trimR l).length ≤ l.length := by
  induction n with
  | zero => intro l h; rw [List.eq_nil_of_length_eq_zero h]; simp [trimR]
  | succ n ih =>
    intro l h
    rcases snoc_cases l with rfl | ⟨m, x, rfl⟩
    · simp at h
    · by_cases hx : x = 47
      · subst hx
        rw [trimR_snoc]
        have := ih m (by simp at h; omega)
        simp; omega
      · rw [trimR_keep m x hx]; exact Nat.le_refl _
theorem trimS_size (s : ByteArray) : (trimS s).size ≤ s.size := by
  have := trim_size _ s.data.toList rfl
  rw [← size_list (trimS s), ← size_list s]; exact this

set_option maxRecDepth 100000 in
set_option maxHeartbeats 1000000 in
theorem trim_any (s : ByteArray) (w : World) (hs : s.size ≤ 1073741824) :
    Calls Tryz.prog 131 #[.string s, .string ⟨#[47]⟩] w fun e w' => e = .returned (.string (trimS s)) ∧ w' = w := by
  by_cases h0 : s.size = 0
  · have he := emp_yes h0
    have HT : Hid (s = trimS s) := (trim_empty h0).symm
    go_enter Tryz.func131, Tryz.ntmps131
    go_wp2
    go_ret
    exact ⟨ret_str HT.out, rfl⟩
  · have he := emp_no (show 1 ≤ s.size by omega)
    go_enter Tryz.func131, Tryz.ntmps131
    go_wp2_with (go_at_call 159; refine (trimByte_any _ _ hs).mono ?_; rintro e w' ⟨rfl, rfl⟩)
    go_ret
    exact ⟨rfl, rfl⟩

theorem last_none {r : ByteArray} (h : ∀ j (hj : j < r.size), ¬ (r[j].toNat : Int) = 47) : LastAt r.data.toList (-1) := by
  refine .inl ⟨rfl, fun hm => ?_⟩
  obtain ⟨j, hj, e⟩ := List.getElem_of_mem hm
  refine h j (by simpa using hj) ?_
  have : r[j]'(by simpa using hj) = 47 := e
  rw [this]; rfl
theorem last_found {r : ByteArray} {k : Nat} (hk : k < r.size) (hc : (r[k].toNat : Int) = 47) (h : ∀ j (hj : j < r.size), k < j → ¬ (r[j].toNat : Int) = 47) : LastAt r.data.toList (k : Int) := by
  refine .inr ⟨r.data.toList.take k, r.data.toList.drop (k + 1), ?_, ?_, ?_⟩
  · have h3 : r[k] = 47 := UInt8.toNat_inj.1 (by have : (47 : UInt8).toNat = 47 := rfl; omega)
    rw [← h3, ← drop_get r k hk, List.take_append_drop]
  · intro hm
    obtain ⟨j, hj, e⟩ := List.getElem_of_mem hm
    rw [List.getElem_drop] at e
    have hj2 : k + 1 + j < r.size := by simp at hj; omega
    refine h (k + 1 + j) hj2 (by omega) ?_
    have : r[k + 1 + j] = 47 := e
    rw [this]; rfl
  · simp; omega

set_option maxHeartbeats 1000000 in
theorem lastStr_any (r : ByteArray) (w : World) (hs : r.size ≤ 1073741824) :
    Calls Tryz.prog 163 #[.string r, .int .u8 47] w fun e w' => (∃ i, e = .returned (.int .i64 i) ∧ LastAt r.data.toList i) ∧ w' = w := by
  go_enter Tryz.func163, Tryz.ntmps163
  go_wp2
  go_loop [5] (fun v => ∃ k : Nat, k ≤ r.size ∧ v = .int .i64 ((k : Int) - 1) ∧ ∀ j (hj : j < r.size), k ≤ j → ¬ (r[j].toNat : Int) = 47) (fun v => (intOf v + 1).toNat)
  case atStart => exact ⟨r.size, Nat.le_refl _, rfl, fun j hj h => by omega⟩
  case round =>
    obtain ⟨k, hk, rfl, hno⟩ := hrel
    have HN : Hid (∀ j (hj : j < r.size), k ≤ j → ¬ (r[j].toNat : Int) = 47) := hno
    clear hno
    by_cases h0 : k = 0
    · subst h0
      go_wp2
      go_ret
      exact ⟨⟨_, rfl, last_none (fun j hj => HN.out j hj (Nat.zero_le _))⟩, rfl⟩
    · obtain ⟨m, rfl⟩ : ∃ m, k = m + 1 := ⟨k - 1, by omega⟩
      have hm : m < r.size := by omega
      by_cases hc : (r[m].toNat : Int) = 47
      · have hb : ((r[m].toNat : Int) == 47) = true := by rw [beq_iff_eq]; exact hc
        have HF : Hid (LastAt r.data.toList (m : Int)) := last_found hm hc (fun j hj h => HN.out j hj (by omega))
        clear hc
        go_wp2
        go_ret
        exact ⟨⟨_, rfl, HF.out⟩, rfl⟩
      · have hb : ((r[m].toNat : Int) == 47) = false := by rw [beq_eq_false_iff_ne]; exact hc
        have HC : Hid (¬ (r[m].toNat : Int) = 47) := hc
        clear hc
        go_wp2
        go_round
        case rel =>
          refine ⟨m, by omega, rfl, fun j hj h => ?_⟩
          by_cases e : j = m
          · subst e; exact HC.out
          · exact HN.out j hj (by omega)
        case measure => simp [intOf]

set_option maxHeartbeats 1000000 in
theorem lastIdx_any (r : ByteArray) (w : World) (hs : r.size ≤ 1073741824) :
    Calls Tryz.prog 132 #[.string r, .int .u8 47] w fun e w' => (∃ i, e = .returned (.int .i64 i) ∧ LastAt r.data.toList i) ∧ w' = w := by
  go_enter Tryz.func132, Tryz.ntmps132
  go_wp2_with fail
  refine (lastStr_any r _ hs).mono ?_
  rintro e w' ⟨⟨i, rfl, hi⟩, rfl⟩
  go_wp2
  go_ret
  exact ⟨⟨_, rfl, hi⟩, rfl⟩

set_option maxHeartbeats 1000000 in
theorem base_any (s : ByteArray) (w : World) (hs : s.size ≤ 1073741824) :
    Calls Tryz.prog 99 #[.string s] w fun e w' => e = .returned (.string (baseS s)) ∧ w' = w := by
  have hts := trimS_size s
  cases ht : (trimS s).toList.isEmpty
  · go_enter Tryz.func99, Tryz.ntmps99
    go_wp2_with fail
    refine (trim_any s _ hs).mono ?_
    rintro e w' ⟨rfl, rfl⟩
    go_wp2_with fail
    refine (lastIdx_any (trimS s) _ (by omega)).mono ?_
    rintro e w' ⟨⟨i, rfl, hi⟩, rfl⟩
    have hbd := last_bd hi
    rw [size_list] at hbd
    have HE : Hid (baseS s = (trimS s).extract (i + 1).toNat (trimS s).size) := base_last ht hi
    clear hi
    go_wp2
    go_ret
    exact ⟨ret_str HE.out.symm, rfl⟩
  · cases he : s.toList.isEmpty
    · have HE : Hid (baseS s = ⟨#[47]⟩) := by unfold Hid; rw [base_slash ht, he]; rfl
      go_enter Tryz.func99, Tryz.ntmps99
      go_wp2_with fail
      refine (trim_any s _ hs).mono ?_
      rintro e w' ⟨rfl, rfl⟩
      go_wp2
      go_ret
      exact ⟨ret_str HE.out.symm, rfl⟩
    · have HE : Hid (baseS s = ⟨#[]⟩) := by unfold Hid; rw [base_slash ht, he]; rfl
      have hz := emp_size ht
      go_enter Tryz.func99, Tryz.ntmps99
      go_wp2_with fail
      refine (trim_any s _ hs).mono ?_
      rintro e w' ⟨rfl, rfl⟩
      go_wp2_with fail
      refine (lastIdx_any (trimS s) _ (by omega)).mono ?_
      rintro e w' ⟨⟨i, rfl, hi⟩, rfl⟩
      have hbd := last_bd hi
      rw [size_list] at hbd
      obtain rfl : i = -1 := by omega
      clear hi
      go_wp2
      go_ret
      exact ⟨ret_str HE.out.symm, rfl⟩

end Go.Proofs.YtfemboojdablhaaGreatDoor
