/- strings.IndexRune of a rune above 127 in the four signs that no name has: the library's own text, walked. -/
import Derived.Test.YtconbmfbokpklaaGreatDoorStr
import Derived.Laws.RangeAny
import Derived.WalkMore
namespace Go.Proofs.YtconbmfbokpklaaGreatDoor
open Go.RowKit

/-- The bytes that a rune above 127 takes are all above 127. -/
theorem decode_wide (s : ByteArray) (pos : Nat) (h : pos < s.size) (ha : 128 ≤ (s[pos]'h).toNat) : ∀ j, j < (Utf8.decode s pos).2 → ∃ hj : pos + j < s.size, 128 ≤ (s[pos + j]'hj).toNat := by
  have hn : ¬ (s[pos]'h).toNat < 128 := by omega
  have key : ∀ k, (decide (pos + k < s.size) && ((s.get! (pos + k)).toNat / 64 == 2)) = true → ∃ hj : pos + k < s.size, 128 ≤ (s[pos + k]'hj).toNat := by
    intro k hk
    rw [Bool.and_eq_true, decide_eq_true_eq, beq_iff_eq] at hk
    refine ⟨hk.1, ?_⟩
    have e : s.get! (pos + k) = s[pos + k]'hk.1 := by simp [ByteArray.get!, getElem!_pos, hk.1]; rfl
    rw [e] at hk
    omega
  have k0 : ∃ hj : pos + 0 < s.size, 128 ≤ (s[pos + 0]'hj).toNat := ⟨h, ha⟩
  intro j hj
  simp only [Utf8.decode, get_at s pos h, hn, if_false] at hj
  repeat' split at hj
  all_goals simp only [Bool.and_eq_true] at *
  · match j, hj with
    | 0, _ => exact k0
    | 1, _ => exact key 1 (by rename_i h1 _; exact h1.2)
  · match j, hj with
    | 0, _ => exact k0
  · match j, hj with
    | 0, _ => exact k0
    | 1, _ => exact key 1 (by rename_i h1 _ _; exact h1.1.2)
    | 2, _ => exact key 2 (by rename_i h1 _ _; exact h1.2)
  · match j, hj with
    | 0, _ => exact k0
  · match j, hj with
    | 0, _ => exact k0
    | 1, _ => exact key 1 (by rename_i h1 _ _; exact h1.1.1.2)
    | 2, _ => exact key 2 (by rename_i h1 _ _; exact h1.1.2)
    | 3, _ => exact key 3 (by rename_i h1 _ _; exact h1.2)
  · match j, hj with
    | 0, _ => exact k0
  · match j, hj with
    | 0, _ => exact k0

def NegPost (w : World) (e : Ending) (w' : World) : Prop := e = .returned (.int .i64 (-1)) ∧ Below w.heap.size w w'
theorem idx_four {l : UInt8} (h : 128 ≤ l.toNat) : ∀ k, Lib.indexByte (([0, 9, 10, 47] : List UInt8).drop k) l = -1 := by
  intro k
  rcases idx_cases l (([0, 9, 10, 47] : List UInt8).drop k) with ⟨e, _⟩ | ⟨p, r, e, _, _⟩
  · exact e
  · exfalso
    have hm : l ∈ ([0, 9, 10, 47] : List UInt8) := List.mem_of_mem_drop (i := k) (by rw [e]; simp)
    simp at hm
    rcases hm with rfl | rfl | rfl | rfl <;> simp at h
theorem enc_last {r : Nat} (h : 128 ≤ r) : (∃ a l : UInt8, Utf8.encode (r : Int) = ⟨#[a, l]⟩ ∧ 128 ≤ l.toNat) ∨ (∃ a b l : UInt8, Utf8.encode (r : Int) = ⟨#[a, b, l]⟩ ∧ 128 ≤ l.toNat) ∨ (∃ a b c l : UInt8, Utf8.encode (r : Int) = ⟨#[a, b, c, l]⟩ ∧ 128 ≤ l.toNat) := by
  have hm : ∀ n : Nat, 128 ≤ (UInt8.ofNat (128 + n % 64)).toNat := by
    intro n
    rw [UInt8.toNat_ofNat_of_lt' (by show 128 + n % 64 < 256; omega)]; omega
  unfold Utf8.encode
  obtain ⟨c, hc, hc2⟩ : ∃ c, (if Utf8.valid (r : Int) then ((r : Int)).toNat else Utf8.runeError) = c ∧ 128 ≤ c := by
    refine ⟨_, rfl, ?_⟩
    split
    · simp; omega
    · simp [Utf8.runeError]
  simp only [hc]
  rw [if_neg (by omega)]
  by_cases h1 : c < 2048
  · rw [if_pos h1]; exact .inl ⟨_, _, rfl, hm c⟩
  · rw [if_neg h1]
    by_cases h2 : c < 65536
    · rw [if_pos h2]; exact .inr (.inl ⟨_, _, _, rfl, hm c⟩)
    · rw [if_neg h2]; exact .inr (.inr ⟨_, _, _, _, rfl, hm c⟩)

theorem idx_call (k : Nat) (l : UInt8) (hl : 128 ≤ l.toNat) (w : World) : Calls Tryz.prog 80 #[.string (({ data := #[0, 9, 10, 47] } : ByteArray).extract k 4), .int .u8 (l.toNat : Int)] w fun e w' => e = .returned (.int .i64 (-1)) ∧ w' = w := by
  have h := Tryz.strings_IndexByte (({ data := #[0, 9, 10, 47] } : ByteArray).extract k 4) (l.toNat : Int) w
  have e : Lib.indexByte (({ data := #[0, 9, 10, 47] } : ByteArray).extract k 4).data.toList ((l.toNat : Int)).toNat.toUInt8 = -1 := by
    have e1 : ((l.toNat : Int)).toNat.toUInt8 = l := by simp
    rw [e1, extract_bs, data_bs, List.take_of_length_le (by simp)]
    exact idx_four hl k
  rw [e] at h
  exact h
def AnyB (e : Ending) : Prop := ∃ b, e = .returned (.bool b)
set_option maxHeartbeats 1000000 in
theorem validRune_any (r : Nat) (w : World) (h : 128 ≤ r) : Calls Tryz.prog 149 #[.int .i32 (r : Int)] w fun e w' => AnyB e ∧ w' = w := by
  by_cases h1 : r < 55296
  · have h1' : (r : Int) < 55296 := by omega
    go_enter Tryz.func149, Tryz.ntmps149
    go_wp2
    go_ret
    exact ⟨⟨_, rfl⟩, rfl⟩
  · have h1' : ¬ (r : Int) < 55296 := by omega
    by_cases h2 : 57343 < r
    · have h2' : (57343 : Int) < (r : Int) := by omega
      by_cases h3 : r ≤ 1114111
      · have h3' : (r : Int) ≤ 1114111 := by omega
        go_enter Tryz.func149, Tryz.ntmps149
        go_wp2
        go_ret
        exact ⟨⟨_, rfl⟩, rfl⟩
      · have h3' : ¬ (r : Int) ≤ 1114111 := by omega
        go_enter Tryz.func149, Tryz.ntmps149
        go_wp2
        go_ret
        exact ⟨⟨_, rfl⟩, rfl⟩
    · have h2' : ¬ (57343 : Int) < (r : Int) := by omega
      go_enter Tryz.func149, Tryz.ntmps149
      go_wp2
      go_ret
      exact ⟨⟨_, rfl⟩, rfl⟩
set_option maxHeartbeats 2000000 in
set_option maxRecDepth 100000 in
theorem indexRune_high (r : Nat) (w : World) (h : 128 ≤ r) (h2 : r ≤ 2147483647) :
    Calls Tryz.prog 141 #[.string ⟨#[0, 9, 10, 47]⟩, .int .i32 (r : Int)] w (NegPost w) := by
  have hlo : ¬ (r : Int) < 128 := by omega
  by_cases he : r = 65533
  · subst he
    have n0 := fun ty => run_next_ascii (P := Tryz.prog) w ⟨#[0, 9, 10, 47]⟩ 0 ty (by decide) (by decide)
    have n1 := fun ty => run_next_ascii (P := Tryz.prog) w ⟨#[0, 9, 10, 47]⟩ 1 ty (by decide) (by decide)
    have n2 := fun ty => run_next_ascii (P := Tryz.prog) w ⟨#[0, 9, 10, 47]⟩ 2 ty (by decide) (by decide)
    have n3 := fun ty => run_next_ascii (P := Tryz.prog) w ⟨#[0, 9, 10, 47]⟩ 3 ty (by decide) (by decide)
    have n4 := fun ty => run_next_end (P := Tryz.prog) w ⟨#[0, 9, 10, 47]⟩ 4 ty (by decide)
    go_enter Tryz.func141, Tryz.ntmps141
    go_wp2
    refine wp_loop_rounds 5 ?_
    rw [rounds_succ]
    go_wp2
    rw [rounds_succ]
    go_wp2
    rw [rounds_succ]
    go_wp2
    rw [rounds_succ]
    go_wp2
    rw [rounds_succ]
    go_wp2
    go_ret
    exact ⟨rfl, (Below.refl _ _).alloc (Nat.le_refl _) _⟩
  · have heb : ((r : Int) == 65533) = false := by rw [beq_eq_false_iff_ne]; omega
    rcases enc_last h with ⟨a, l, henc, hl⟩ | ⟨a, b, l, henc, hl⟩ | ⟨a, b, c, l, henc, hl⟩
    · have hx0 : ((9 : Int) != (l.toNat : Int)) = true := by rw [bne_iff_ne]; omega
      have hx : (((({ data := #[0, 9, 10, 47] } : ByteArray)[1]'(by decide)).toNat : Int) != ((({ data := #[a, l] } : ByteArray)[1]'(by show 1 < 2; omega)).toNat : Int)) = true := hx0
      go_enter Tryz.func141, Tryz.ntmps141
      go_wp2_with fail
      refine (validRune_any r _ h).mono ?_
      rintro e w' ⟨⟨bb, rfl⟩, rfl⟩
      cases bb
      · go_wp2
        go_ret
        exact ⟨rfl, Below.refl _ _⟩
      · go_wp2_with fail
        go_step3
        go_wp2
        refine wp_loop_rounds 1 ?_
        rw [rounds_succ]
        go_wp2_with fail
        go_step3
        go_wp2_with fail
        go_quiet (fail)
        go_wp2_with fail
        obtain ⟨W9, hW9⟩ : ∃ W9, w'.drewN nq = W9 := ⟨_, rfl⟩
        have hb9 : Below w'.heap.size w' W9 := by rw [← hW9]; exact below_drewN (Below.refl _ _) nq
        rw [hW9]
        clear hW9
        have hw2 : IntKind.i64.wrap 2 = 2 := by decide
        go_quiet ((go_at_call 80; exact Calls.quiet_of_same (idx_call 2 (({ data := #[a, l] } : ByteArray)[1]'(by show 1 < 2; omega)) hl _)))
        go_wp2_with fail
        rw [Exit.noGoto_ret]
        simp only [Exit.inBlock, Exit.then]
        rw [Exit.noGoto_ret]
        go_ret
        exact ⟨rfl, below_drewN hb9 nq⟩
    · have hx0 : ((10 : Int) != (l.toNat : Int)) = true := by rw [bne_iff_ne]; omega
      have hx : (((({ data := #[0, 9, 10, 47] } : ByteArray)[2]'(by decide)).toNat : Int) != ((({ data := #[a, b, l] } : ByteArray)[2]'(by show 2 < 3; omega)).toNat : Int)) = true := hx0
      go_enter Tryz.func141, Tryz.ntmps141
      go_wp2_with fail
      refine (validRune_any r _ h).mono ?_
      rintro e w' ⟨⟨bb, rfl⟩, rfl⟩
      cases bb
      · go_wp2
        go_ret
        exact ⟨rfl, Below.refl _ _⟩
      · go_wp2_with fail
        go_step3
        go_wp2
        refine wp_loop_rounds 1 ?_
        rw [rounds_succ]
        go_wp2_with fail
        go_step3
        go_wp2_with fail
        go_quiet (fail)
        go_wp2_with fail
        obtain ⟨W9, hW9⟩ : ∃ W9, w'.drewN nq = W9 := ⟨_, rfl⟩
        have hb9 : Below w'.heap.size w' W9 := by rw [← hW9]; exact below_drewN (Below.refl _ _) nq
        rw [hW9]
        clear hW9
        have hw2 : IntKind.i64.wrap 3 = 3 := by decide
        go_quiet ((go_at_call 80; exact Calls.quiet_of_same (idx_call 3 (({ data := #[a, b, l] } : ByteArray)[2]'(by show 2 < 3; omega)) hl _)))
        go_wp2_with fail
        rw [Exit.noGoto_ret]
        simp only [Exit.inBlock, Exit.then]
        rw [Exit.noGoto_ret]
        go_ret
        exact ⟨rfl, below_drewN hb9 nq⟩
    · have hx0 : ((47 : Int) != (l.toNat : Int)) = true := by rw [bne_iff_ne]; omega
      have hx : (((({ data := #[0, 9, 10, 47] } : ByteArray)[3]'(by decide)).toNat : Int) != ((({ data := #[a, b, c, l] } : ByteArray)[3]'(by show 3 < 4; omega)).toNat : Int)) = true := hx0
      go_enter Tryz.func141, Tryz.ntmps141
      go_wp2_with fail
      refine (validRune_any r _ h).mono ?_
      rintro e w' ⟨⟨bb, rfl⟩, rfl⟩
      cases bb
      · go_wp2
        go_ret
        exact ⟨rfl, Below.refl _ _⟩
      · go_wp2_with fail
        go_step3
        go_wp2
        refine wp_loop_rounds 1 ?_
        rw [rounds_succ]
        go_wp2_with fail
        go_step3
        go_wp2_with fail
        go_quiet (fail)
        go_wp2_with fail
        obtain ⟨W9, hW9⟩ : ∃ W9, w'.drewN nq = W9 := ⟨_, rfl⟩
        have hb9 : Below w'.heap.size w' W9 := by rw [← hW9]; exact below_drewN (Below.refl _ _) nq
        rw [hW9]
        clear hW9
        have hw2 : IntKind.i64.wrap 4 = 4 := by decide
        go_quiet ((go_at_call 80; exact Calls.quiet_of_same (idx_call 4 (({ data := #[a, b, c, l] } : ByteArray)[3]'(by show 3 < 4; omega)) hl _)))
        go_wp2_with fail
        rw [Exit.noGoto_ret]
        simp only [Exit.inBlock, Exit.then]
        rw [Exit.noGoto_ret]
        go_ret
        exact ⟨rfl, below_drewN hb9 nq⟩
end Go.Proofs.YtconbmfbokpklaaGreatDoor
