/- Walk: how often a text has a line. -/
import Derived.Test.YtfemboojdablhaaGreatDoorWkU
namespace Go.Proofs.YtfemboojdablhaaGreatDoor.Tre
open Go.RowKit Go.Shelf

theorem cut_done {s : ByteArray} {f : Nat} {done : List ByteArray} (h : CutSt 10 s s.size f done) : done = (cutS 10 s).dropLast := by
  have := cutSt_out (cutSt_end h) (by omega)
  rw [← this, List.dropLast_concat]
set_option maxRecDepth 100000 in
set_option maxHeartbeats 2000000 in
theorem lines_any (s x : ByteArray) (w : World) (hs : s.size ≤ 1073741824) :
    Calls Tryz.prog 11 #[.string s, .string x] w fun e w' => e = .returned (.int .i64 (linesD s x : Int)) ∧ w' = w := by
  go_enter Tryz.func11, Tryz.ntmps11
  go_wp2
  go_loopw [5, 6, 7] (fun nv fv iv wr => ∃ (k f : Nat) (done : List ByteArray), CutSt 10 s k f done ∧ k ≤ s.size ∧ iv = .int .i64 (k : Int) ∧ fv = .int .i64 (f : Int) ∧ nv = .int .i64 ((done.countP (fun p => p.toList == x.toList) : Nat) : Int) ∧ done.length ≤ k ∧ wr = w) (fun _ _ iv _ => s.size - (intOf iv).toNat)
  case atStart => exact ⟨0, 0, [], cutSt_zero 10 s, Nat.zero_le _, rfl, rfl, rfl, Nat.zero_le _, rfl⟩
  case round =>
    obtain ⟨k, f, done, hst, hk, rfl, rfl, rfl, hdl, rfl⟩ := hrel
    have hcp : done.countP (fun p => p.toList == x.toList) ≤ done.length := List.countP_le_length
    obtain ⟨q, hq⟩ : ∃ q, done.countP (fun p => p.toList == x.toList) = q := ⟨_, rfl⟩
    rw [hq] at hcp ⊢
    by_cases hlt : k < s.size
    · have hf := cutSt_from hst hk
      have hkI : (k : Int) < (s.size : Int) := by omega
      by_cases hc : s[k] = 10
      · have hbc : ((s[k].toNat : Int) == 10) = true := by rw [hc]; rfl
        have HST : Hid (CutSt 10 s (k + 1) (k + 1) (done ++ [s.extract f k])) := cutSt_hit hst hlt hc
        have HQ := hide hq
        cases hx : ((s.extract f k).toList == x.toList)
        · clear hst hc hq
          go_wp2
          go_roundw
          case rel => exact ⟨k + 1, k + 1, _, HST.out, by omega, by go_num, by go_num, by rw [List.countP_append, HQ.out]; simp [hx], by simp; omega, trivial⟩
          case measure => simp [intOf]; omega
        · clear hst hc hq
          go_wp2
          go_roundw
          case rel => exact ⟨k + 1, k + 1, _, HST.out, by omega, by go_num, by go_num, by rw [List.countP_append, HQ.out]; simp [hx], by simp; omega, trivial⟩
          case measure => simp [intOf]; omega
      · have hbc : ((s[k].toNat : Int) == 10) = false := by
          rw [beq_eq_false_iff_ne]; intro e; exact hc (UInt8.toNat_inj.1 (by have : (10 : UInt8).toNat = 10 := rfl; omega))
        have HST : Hid (CutSt 10 s (k + 1) f done) := cutSt_miss hst hlt hc
        have HQ := hide hq
        clear hst hc hq
        go_wp2
        go_roundw
        case rel => exact ⟨k + 1, f, done, HST.out, by omega, by go_num, rfl, by rw [HQ.out], by omega, trivial⟩
        case measure => simp [intOf]; omega
    · have hke : k = s.size := by omega
      subst hke
      have hd := cut_done hst
      have HD : Hid (q = linesD s x) := by unfold linesD; rw [← hd]; exact hq.symm
      clear hst hq hd
      go_wp2
      go_ret
      exact ⟨by rw [HD.out]; rfl, rfl⟩
end Go.Proofs.YtfemboojdablhaaGreatDoor.Tre
