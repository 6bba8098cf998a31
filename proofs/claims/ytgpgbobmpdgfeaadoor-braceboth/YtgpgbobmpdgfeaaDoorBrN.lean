/- Numbers and letters, read. -/
import Derived.Test.YtgpgbobmpdgfeaaDoorBrK
import Derived.Test.YtgpgbobmpdgfeaaDoorBrS
namespace Go.Proofs.YtgpgbobmpdgfeaaDoor
open Go.RowKit Go.Shelf
attribute [local go_sem] Oper.semAt_some

def isDig (c : UInt8) : Bool := decide (48 ≤ c.toNat ∧ c.toNat ≤ 57)
theorem digV_snoc (l : List UInt8) (c : UInt8) : digV (l ++ [c]) = 10 * digV l + ((c.toNat : Int) - 48) := by
  unfold digV
  rw [List.foldl_append]
  rfl
theorem digF_bound : ∀ (l : List UInt8) (n : Int), 0 ≤ n → (∀ c ∈ l, isDig c = true) → 0 ≤ l.foldl (fun n c => 10 * n + ((c.toNat : Int) - 48)) n ∧ l.foldl (fun n c => 10 * n + ((c.toNat : Int) - 48)) n < (n + 1) * 10 ^ l.length := by
  intro l
  induction l with
  | nil => intro n hn _; simp; omega
  | cons c l ih =>
    intro n hn h
    have hc := h c (by simp)
    unfold isDig at hc
    simp only [decide_eq_true_eq] at hc
    obtain ⟨h1, h2⟩ := ih (10 * n + ((c.toNat : Int) - 48)) (by omega) (fun x hx => h x (by simp [hx]))
    refine ⟨h1, Int.lt_of_lt_of_le h2 ?_⟩
    rw [List.length_cons, Int.pow_succ, Int.mul_comm (10 ^ l.length) 10, ← Int.mul_assoc]
    exact Int.mul_le_mul_of_nonneg_right (by omega) (Int.pow_nonneg (by decide))
theorem digV_bound (l : List UInt8) (h : ∀ c ∈ l, isDig c = true) : 0 ≤ digV l ∧ digV l < 10 ^ l.length := by
  have := digF_bound l 0 (Int.le_refl _) h
  rw [Int.zero_add, Int.one_mul] at this
  exact this
theorem digitsOK_iff (l : List UInt8) : digitsOK l = (l.all isDig && decide (1 ≤ l.length ∧ l.length ≤ 6)) := rfl
theorem digV_small {l : List UInt8} (h : ∀ c ∈ l, isDig c = true) (hl : l.length ≤ 6) : 0 ≤ digV l ∧ digV l < 1000000 := by
  obtain ⟨h1, h2⟩ := digV_bound l h
  refine ⟨h1, Int.lt_of_lt_of_le h2 ?_⟩
  have : l.length = 0 ∨ l.length = 1 ∨ l.length = 2 ∨ l.length = 3 ∨ l.length = 4 ∨ l.length = 5 ∨ l.length = 6 := by omega
  rcases this with h | h | h | h | h | h | h <;> rw [h] <;> decide
theorem take_snoc {l : List UInt8} {i : Nat} (h : i < l.length) : l.take (i + 1) = l.take i ++ [l[i]] := List.take_succ_eq_append_getElem h
set_option maxRecDepth 100000 in
set_option maxHeartbeats 2000000 in
theorem num42_any (l : List UInt8) (w : World) (hl : l.length ≤ 1000000) : Calls Tryd.prog 42 #[.string (bs l), .int .i64 6] w fun e w' => e = .returned (.tuple #[.int .i64 (if digitsOK l = true then digV l else 0), .bool (digitsOK l)]) ∧ w' = w := by
  have hsz := bs_size l
  by_cases h0 : l.length = 0
  · have hd : digitsOK l = false := by rw [digitsOK_iff]; simp [h0]
    have hI : ((l.length : Int) == 0) = true := by simp [h0]
    rw [hd]
    clear h0
    go_enter Tryd.func42, Tryd.ntmps42
    go_wp2
    go_ret2
    exact ⟨rfl, rfl⟩
  · have hI0 : ((l.length : Int) == 0) = false := by rw [beq_eq_false_iff_ne]; omega
    by_cases h6 : l.length ≤ 6
    · have hI6 : ¬ ((6 : Int) < (l.length : Int)) := by omega
      go_enter Tryd.func42, Tryd.ntmps42
      go_wp2
      go_loopw [19, 6] (fun iv nv wr => wr = w ∧ ∃ i : Nat, iv = .int .i64 (i : Int) ∧ nv = .int .i64 (digV (l.take i)) ∧ i ≤ l.length ∧ ∀ c ∈ l.take i, isDig c = true) (fun iv _ _ => l.length - (intOf iv).toNat)
      case atStart => exact ⟨rfl, 0, rfl, rfl, Nat.zero_le _, by simp⟩
      case round =>
        obtain ⟨rfl, i, rfl, rfl, hi, hall⟩ := hrel
        by_cases hlt : i < l.length
        · have hiI : (i : Int) < (l.length : Int) := by omega
          obtain ⟨c, hc⟩ : ∃ c, l[i] = c := ⟨_, rfl⟩
          have hbk : i < (bs l).size := by rw [hsz]; exact hlt
          have hg : (bs l)[i]'hbk = c := by rw [← hc]; rfl
          have hcm : c ∈ l := by rw [← hc]; exact List.getElem_mem hlt
          have hcl : l.take (i + 1) = l.take i ++ [c] := by rw [take_snoc hlt, hc]
          obtain ⟨v0, v1⟩ := digV_small hall (by rw [List.length_take]; omega)
          have HT := hide (And.intro hcl (And.intro hall hcm))
          obtain ⟨v, hv⟩ : ∃ v, digV (l.take i) = v := ⟨_, rfl⟩
          rw [hv] at v0 v1
          have HV := hide hv
          clear hcl hall hc hcm
          have hcn : c.toNat < 256 := c.toNat_lt
          by_cases h1 : c.toNat < 48
          · have hb : (c.toNat : Int) < 48 := by omega
            have hd : digitsOK l = false := by
              rw [digitsOK_iff, Bool.and_eq_false_iff]
              refine .inl (List.all_eq_false.2 ⟨c, HT.out.2.2, ?_⟩)
              unfold isDig
              simp
              omega
            rw [hv]
            clear hv
            go_wp2
            all_goals
              go_ret2
              exact ⟨rfl, rfl⟩
          · have hb : ¬ ((c.toNat : Int) < 48) := by omega
            by_cases h2 : 57 < c.toNat
            · have hb2 : (57 : Int) < (c.toNat : Int) := by omega
              have hd : digitsOK l = false := by
                rw [digitsOK_iff, Bool.and_eq_false_iff]
                refine .inl (List.all_eq_false.2 ⟨c, HT.out.2.2, ?_⟩)
                unfold isDig
                simp
                omega
              rw [hv]
              clear hv
              go_wp2
              all_goals
                go_ret2
                exact ⟨rfl, rfl⟩
            · have hb2 : ¬ ((57 : Int) < (c.toNat : Int)) := by omega
              rw [hv]
              clear hv
              go_wp2
              go_roundw
              case rel =>
                refine ⟨trivial, i + 1, by simp, by rw [HT.out.1, digV_snoc, HV.out], by omega, ?_⟩
                rw [HT.out.1]
                intro x hx
                rcases List.mem_append.1 hx with q | q
                · exact HT.out.2.1 x q
                · simp at q
                  subst q
                  unfold isDig
                  simp
                  omega
              case measure => simp [intOf]; omega
        · have hiI : ¬ ((i : Int) < (l.length : Int)) := by omega
          have hie : i = l.length := by omega
          rw [hie, List.take_length] at hall
          have hd : digitsOK l = true := by
            rw [digitsOK_iff, Bool.and_eq_true]
            exact ⟨List.all_eq_true.2 hall, by simp; omega⟩
          have ht : l.take i = l := by rw [hie, List.take_length]
          rw [ht]
          clear ht hie hall
          go_wp2
          all_goals
            go_ret2
            exact ⟨rfl, rfl⟩
    · have hI6 : (6 : Int) < (l.length : Int) := by omega
      have hd : digitsOK l = false := by rw [digitsOK_iff]; simp [h6]
      rw [hd]
      go_enter Tryd.func42, Tryd.ntmps42
      go_wp2
      go_ret2
      exact ⟨rfl, rfl⟩
/-- What a reader of numbers answers. -/
def ReadOut (o : Option Int) (e : Ending) : Prop := ∃ v, e = .returned (.tuple #[.int .i64 v, .bool o.isSome]) ∧ ∀ a, o = some a → v = a
theorem cut45 (l : List UInt8) : (Lib.hasPrefix l [45] = true ∧ ∃ r, l = 45 :: r ∧ Lib.trimPrefix l [45] = r) ∨ (Lib.hasPrefix l [45] = false ∧ (∀ r, l ≠ 45 :: r) ∧ Lib.trimPrefix l [45] = l) := by
  cases l with
  | nil => right; exact ⟨rfl, by simp, rfl⟩
  | cons c r =>
    by_cases h : c = 45
    · subst h
      left
      exact ⟨by simp [Lib.hasPrefix], r, rfl, by simp [Lib.trimPrefix, Lib.hasPrefix]⟩
    · right
      have hb2 : ((45 : UInt8) == c) = false := by simpa using fun e => h e.symm
      have hp : Lib.hasPrefix (c :: r) [45] = false := by show ((45 : UInt8) == c && _) = false; rw [hb2]; rfl
      exact ⟨hp, fun r' e => h (by cases e; rfl), by unfold Lib.trimPrefix; rw [hp]; rfl⟩
theorem numberD_pos (l : List UInt8) (h : ∀ r, l ≠ 45 :: r) : numberD l = if digitsOK l then some (digV l) else none := by
  unfold numberD
  split
  · rename_i r
    exact absurd rfl (h r)
  · rfl
set_option maxRecDepth 100000 in
set_option maxHeartbeats 1000000 in
theorem number_any (l : List UInt8) (w : World) (hl : l.length ≤ 1000000) : Calls Tryd.prog 33 #[.string (bs l)] w fun e w' => ReadOut (numberD l) e ∧ w' = w := by
  have h1 : Calls Tryd.prog 41 #[.string (bs l), .string ⟨#[45]⟩] w fun e w' => e = .returned (.tuple #[.string (bs (Lib.trimPrefix l [45])), .bool (Lib.hasPrefix l [45])]) ∧ w' = w := Tryd.strings_CutPrefix (bs l) ⟨#[45]⟩ w
  rcases cut45 l with ⟨hp, r, rfl, ht⟩ | ⟨hp, hn, ht⟩
  · have h2 := num42_any r w (by simp at hl; omega)
    rw [ht, hp] at h1
    have hb : 0 ≤ digV r ∧ digV r < 1000000 ∨ digitsOK r = false := by
      cases h : digitsOK r with
      | false => exact .inr rfl
      | true =>
        rw [digitsOK_iff, Bool.and_eq_true] at h
        exact .inl (digV_small (List.all_eq_true.1 h.1) (by have := h.2; simp at this; omega))
    have HD : Hid (numberD (45 :: r) = if digitsOK r then some (-(digV r)) else none) := rfl
    have HB := hide hb
    clear hb hl ht hp
    cases h : digitsOK r with
    | false =>
      rw [h] at h2 HD
      simp only [Bool.false_eq_true, if_false] at h2 HD
      clear h
      go_enter Tryd.func33, Tryd.ntmps33
      go_wp2_with fail
      refine h1.mono ?_
      rintro e w2 ⟨rfl, hw⟩
      rw [hw]; clear hw
      go_wp2_with fail
      refine h2.mono ?_
      rintro e w3 ⟨rfl, hw⟩
      rw [hw]; clear hw
      go_wp2
      go_ret2
      refine ⟨?_, rfl⟩
      rw [HD.out]
      exact ⟨_, rfl, fun a h => by cases h⟩
    | true =>
      rw [h] at h2 HD
      simp only [if_true] at h2 HD
      have hbb : 0 ≤ digV r ∧ digV r < 1000000 := by
        rcases HB.out with q | q
        · exact q
        · rw [h] at q; cases q
      obtain ⟨b0, b1⟩ := hbb
      clear h
      go_enter Tryd.func33, Tryd.ntmps33
      go_wp2_with fail
      refine h1.mono ?_
      rintro e w2 ⟨rfl, hw⟩
      rw [hw]; clear hw
      go_wp2_with fail
      refine h2.mono ?_
      rintro e w3 ⟨rfl, hw⟩
      rw [hw]; clear hw
      go_wp2
      go_ret2
      refine ⟨?_, rfl⟩
      rw [HD.out]
      exact ⟨_, rfl, fun a h => by cases h; rfl⟩
  · have h2 := num42_any l w hl
    rw [ht, hp] at h1
    have HD := hide (numberD_pos l hn)
    clear ht hp hn
    cases h : digitsOK l with
    | false =>
      rw [h] at h2 HD
      simp only [Bool.false_eq_true, if_false] at h2 HD
      clear h
      go_enter Tryd.func33, Tryd.ntmps33
      go_wp2_with fail
      refine h1.mono ?_
      rintro e w2 ⟨rfl, hw⟩
      rw [hw]; clear hw
      go_wp2_with fail
      refine h2.mono ?_
      rintro e w3 ⟨rfl, hw⟩
      rw [hw]; clear hw
      go_wp2
      go_ret2
      refine ⟨?_, rfl⟩
      rw [HD.out]
      exact ⟨_, rfl, fun a h => by cases h⟩
    | true =>
      rw [h] at h2 HD
      simp only [if_true] at h2 HD
      clear h
      go_enter Tryd.func33, Tryd.ntmps33
      go_wp2_with fail
      refine h1.mono ?_
      rintro e w2 ⟨rfl, hw⟩
      rw [hw]; clear hw
      go_wp2_with fail
      refine h2.mono ?_
      rintro e w3 ⟨rfl, hw⟩
      rw [hw]; clear hw
      go_wp2
      go_ret2
      refine ⟨?_, rfl⟩
      rw [HD.out]
      exact ⟨_, rfl, fun a h => by cases h; rfl⟩
set_option maxRecDepth 100000 in
set_option maxHeartbeats 1000000 in
theorem letter_any (l : List UInt8) (w : World) (hl : l.length ≤ 1000000) : Calls Tryd.prog 35 #[.string (bs l)] w fun e w' => ReadOut (letterD l) e ∧ w' = w := by
  have hsz := bs_size l
  by_cases h1 : l.length = 1
  · obtain ⟨c, rfl⟩ : ∃ c, l = [c] := List.length_eq_one_iff.1 h1
    have hz1 : (bs [c]).size = 1 := hsz
    have hg : (bs [c])[0]'(by rw [hz1]; decide) = c := rfl
    have hcn : c.toNat < 256 := c.toNat_lt
    have HD : Hid (letterD [c] = if (65 ≤ c.toNat ∧ c.toNat ≤ 90) ∨ (97 ≤ c.toNat ∧ c.toNat ≤ 122) then some (c.toNat : Int) else none) := rfl
    clear hsz h1 hl
    by_cases a1 : (65 : Int) ≤ (c.toNat : Int) <;> by_cases a2 : (c.toNat : Int) ≤ 90 <;> by_cases a3 : (97 : Int) ≤ (c.toNat : Int) <;> by_cases a4 : (c.toNat : Int) ≤ 122
    all_goals first
      | (exfalso; omega)
      | (go_enter Tryd.func35, Tryd.ntmps35
         go_wp2
         go_ret2
         refine ⟨?_, rfl⟩
         rw [HD.out]
         first
           | (rw [if_pos (by omega)]; exact ⟨_, rfl, fun a h => by cases h; rfl⟩)
           | (rw [if_neg (by omega)]; exact ⟨_, rfl, fun a h => by cases h⟩))
  · have hI : ((l.length : Int) != 1) = true := by simp; omega
    have hd : letterD l = none := by
      unfold letterD
      split
      · simp at h1
      · rfl
    clear h1
    go_enter Tryd.func35, Tryd.ntmps35
    go_wp2
    go_ret2
    exact ⟨by rw [hd]; exact ⟨_, rfl, fun a h => by cases h⟩, rfl⟩
end Go.Proofs.YtgpgbobmpdgfeaaDoor
