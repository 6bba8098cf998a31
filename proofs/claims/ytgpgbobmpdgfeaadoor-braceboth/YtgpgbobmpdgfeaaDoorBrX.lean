/- The document's numbers, letters and rows. -/
import Derived.Test.YtgpgbobmpdgfeaaDoorBrU
namespace Go.Proofs.YtgpgbobmpdgfeaaDoor
open Go.RowKit Go.Shelf

set_option maxRecDepth 100000 in
theorem digit_any (c : UInt8) (w : World) : Calls Tryd.prog 45 #[.int .u8 (c.toNat : Int)] w fun e w' => e = .returned (.bool (isDig c)) ∧ w' = w := by
  have hcn : c.toNat < 256 := c.toNat_lt
  have HD : Hid (isDig c = decide (48 ≤ c.toNat ∧ c.toNat ≤ 57)) := rfl
  by_cases a1 : (48 : Int) ≤ (c.toNat : Int) <;> by_cases a2 : (c.toNat : Int) ≤ 57
  all_goals first
    | (exfalso; omega)
    | (go_enter Tryd.func45, Tryd.ntmps45
       go_wp2
       go_ret
       refine ⟨?_, rfl⟩
       rw [HD.out]
       first
         | (rw [decide_eq_true (by omega)]; rfl)
         | (rw [decide_eq_false (by omega)]; rfl))
def numR (l : List UInt8) : Int := if digitsOK l = true then digV l else -1
theorem numR_no {l : List UInt8} (h : digitsOK l = false) : numR l = -1 := by unfold numR; rw [h]; rfl
theorem numR_yes {l : List UInt8} (h : digitsOK l = true) : numR l = digV l := if_pos h
set_option maxRecDepth 100000 in
set_option maxHeartbeats 2000000 in
theorem num38_any (l : List UInt8) (w : World) (hl : l.length ≤ 1000000) : Calls Tryd.prog 38 #[.string (bs l), .int .i64 6] w fun e w' => e = .returned (.int .i64 (numR l)) ∧ w' = w := by
  have hsz := bs_size l
  by_cases h0 : l.length = 0
  · have hd : digitsOK l = false := by rw [digitsOK_iff]; simp [h0]
    have hI : (l.length : Int) < 1 := by omega
    rw [numR_no hd]
    clear h0
    go_enter Tryd.func38, Tryd.ntmps38
    go_wp2
    go_ret
    exact ⟨rfl, rfl⟩
  · have hI0 : ¬ ((l.length : Int) < 1) := by omega
    by_cases h6 : l.length ≤ 6
    · have hI6 : ¬ ((6 : Int) < (l.length : Int)) := by omega
      go_enter Tryd.func38, Tryd.ntmps38
      go_wp2
      go_loopw [6, 5] (fun iv nv wr => wr = w ∧ ∃ i : Nat, iv = .int .i64 (i : Int) ∧ nv = .int .i64 (digV (l.take i)) ∧ i ≤ l.length ∧ ∀ c ∈ l.take i, isDig c = true) (fun iv _ _ => l.length - (intOf iv).toNat)
      case atStart => exact ⟨rfl, 0, rfl, rfl, Nat.zero_le _, by simp⟩
      case round =>
        obtain ⟨rfl, i, rfl, rfl, hi, hall⟩ := hrel
        by_cases hlt : i < l.length
        · have hiI : (i : Int) < (l.length : Int) := by omega
          obtain ⟨c, hc⟩ : ∃ c, l[i] = c := ⟨_, rfl⟩
          have hbk : i < (bs l).size := by rw [hsz]; exact hlt
          have hg : (bs l)[i]'hbk = c := by rw [← hc]; rfl
          have hcm : c ∈ l := by rw [← hc]; exact List.getElem_mem hlt
          have hcl : l.take (i + 1) = l.take i ++ [c] := by rw [take_snoc hlt, hc]
          obtain ⟨v0, v1⟩ := digV_small hall (by rw [List.length_take]; omega)
          have HT := hide (And.intro hcl (And.intro hall hcm))
          obtain ⟨v, hv⟩ : ∃ v, digV (l.take i) = v := ⟨_, rfl⟩
          rw [hv] at v0 v1
          have HV := hide hv
          clear hcl hall hc hcm
          have hcn : c.toNat < 256 := c.toNat_lt
          have hdg := digit_any c wr
          rw [hv]
          clear hv
          cases hdc : isDig c with
          | false =>
            rw [hdc] at hdg
            have HD : Hid (digitsOK l = false) := by
              show digitsOK l = false
              rw [digitsOK_iff, Bool.and_eq_false_iff]
              exact .inl (List.all_eq_false.2 ⟨c, HT.out.2.2, by rw [hdc]; simp⟩)
            clear hdc
            go_wp2_with fail
            refine hdg.mono ?_
            rintro e w' ⟨rfl, hw⟩
            rw [hw]
            clear hw
            go_wp2
            go_ret
            exact ⟨by rw [numR_no HD.out]; rfl, rfl⟩
          | true =>
            rw [hdc] at hdg
            have HDC := hide hdc
            clear hdc
            go_wp2_with fail
            refine hdg.mono ?_
            rintro e w' ⟨rfl, hw⟩
            rw [hw]
            clear hw hdg
            go_wp2
            go_roundw
            case rel =>
              refine ⟨trivial, i + 1, by simp, ?_, by omega, ?_⟩
              · rw [HT.out.1, digV_snoc, HV.out]
                congr 1
                omega
              · rw [HT.out.1]
                intro x hx
                rcases List.mem_append.1 hx with q | q
                · exact HT.out.2.1 x q
                · simp at q
                  subst q
                  exact HDC.out
            case measure => simp [intOf]; omega
        · have hiI : ¬ ((i : Int) < (l.length : Int)) := by omega
          have hie : i = l.length := by omega
          rw [hie, List.take_length] at hall
          have HD : Hid (digitsOK l = true) := by
            show digitsOK l = true
            rw [digitsOK_iff, Bool.and_eq_true]
            exact ⟨List.all_eq_true.2 hall, by simp; omega⟩
          have ht : l.take i = l := by rw [hie, List.take_length]
          rw [ht]
          clear ht hie hall
          go_wp2
          go_ret
          exact ⟨by rw [numR_yes HD.out]; rfl, rfl⟩
    · have hI6 : (6 : Int) < (l.length : Int) := by omega
      have hd : digitsOK l = false := by rw [digitsOK_iff]; simp [h6]
      rw [numR_no hd]
      go_enter Tryd.func38, Tryd.ntmps38
      go_wp2
      go_ret
      exact ⟨rfl, rfl⟩
theorem digV_neg {r : List UInt8} (h : digitsOK r = true) : 0 ≤ digV r ∧ digV r < 1000000 := by
  rw [digitsOK_iff, Bool.and_eq_true] at h
  exact digV_small (List.all_eq_true.1 h.1) (by have := h.2; simp at this; omega)
set_option maxRecDepth 100000 in
set_option maxHeartbeats 1000000 in
theorem whole_any (l : List UInt8) (w : World) (hl : l.length ≤ 1000000) : Calls Tryd.prog 27 #[.string (bs l)] w fun e w' => ReadOut (numberD l) e ∧ w' = w := by
  cases l with
  | nil =>
    have h2 := num38_any [] w (by simp)
    have hd : digitsOK [] = false := by decide
    rw [numR_no hd] at h2
    have hem : (bs [] : ByteArray) = ⟨#[]⟩ := rfl
    rw [hem] at h2 ⊢
    go_enter Tryd.func27, Tryd.ntmps27
    go_wp2_with fail
    refine h2.mono ?_
    rintro e w' ⟨rfl, hw⟩
    rw [hw]; clear hw
    go_wp2
    go_ret2
    exact ⟨⟨_, rfl, fun a h => by cases h⟩, rfl⟩
  | cons c r =>
    have hsz : (bs (c :: r)).size = r.length + 1 := by rw [bs_size]; rfl
    have hg : (bs (c :: r))[0]'(by rw [hsz]; omega) = c := rfl
    have hne : (bs (c :: r)).toList.isEmpty = false := by rw [ByteArray.toList_eq]; rfl
    by_cases h45 : c = 45
    · have he : ((c.toNat : Int) == 45) = true := by rw [h45]; rfl
      have hex : (bs (c :: r)).extract 1 (r.length + 1) = bs r := by
        have := bs_drop (c :: r) 1 (r.length + 1) (by simp)
        exact this
      have h2 := num38_any r w (by simp at hl; omega)
      have HD : Hid (numberD (c :: r) = if digitsOK r then some (-(digV r)) else none) := by rw [h45]; rfl
      have hrl : (0 : Int) ≤ 1 ∧ (1 : Int) ≤ ((r.length + 1 : Nat) : Int) := by omega
      clear h45
      cases h : digitsOK r with
      | false =>
        rw [numR_no h] at h2
        rw [h] at HD
        simp only [Bool.false_eq_true, if_false] at HD
        clear h
        go_enter Tryd.func27, Tryd.ntmps27
        go_wp2_with fail
        refine h2.mono ?_
        rintro e w' ⟨rfl, hw⟩
        rw [hw]; clear hw
        go_wp2
        go_ret2
        rw [HD.out]
        exact ⟨⟨_, rfl, fun a h => by cases h⟩, rfl⟩
      | true =>
        obtain ⟨b0, b1⟩ := digV_neg h
        rw [numR_yes h] at h2
        rw [h] at HD
        simp only [if_true] at HD
        clear h
        go_enter Tryd.func27, Tryd.ntmps27
        go_wp2_with fail
        refine h2.mono ?_
        rintro e w' ⟨rfl, hw⟩
        rw [hw]; clear hw
        go_wp2
        all_goals
          go_ret2
          rw [HD.out]
          exact ⟨⟨_, rfl, fun a h => by cases h; rfl⟩, rfl⟩
    · have he : ((c.toNat : Int) == 45) = false := by
        have := nat_eq c 45
        have h3 : (c == 45) = false := by simpa using h45
        rw [h3] at this
        exact this
      have h2 := num38_any (c :: r) w hl
      have HD := hide (numberD_pos (c :: r) (fun r' e => h45 (by cases e; rfl)))
      clear h45
      cases h : digitsOK (c :: r) with
      | false =>
        rw [numR_no h] at h2
        rw [h] at HD
        simp only [Bool.false_eq_true, if_false] at HD
        clear h
        go_enter Tryd.func27, Tryd.ntmps27
        go_wp2_with fail
        refine h2.mono ?_
        rintro e w' ⟨rfl, hw⟩
        rw [hw]; clear hw
        go_wp2
        go_ret2
        rw [HD.out]
        exact ⟨⟨_, rfl, fun a h => by cases h⟩, rfl⟩
      | true =>
        obtain ⟨b0, b1⟩ := digV_neg h
        rw [numR_yes h] at h2
        rw [h] at HD
        simp only [if_true] at HD
        clear h
        go_enter Tryd.func27, Tryd.ntmps27
        go_wp2_with fail
        refine h2.mono ?_
        rintro e w' ⟨rfl, hw⟩
        rw [hw]; clear hw
        go_wp2
        all_goals
          go_ret2
          rw [HD.out]
          exact ⟨⟨_, rfl, fun a h => by cases h; rfl⟩, rfl⟩
set_option maxRecDepth 100000 in
set_option maxHeartbeats 1000000 in
theorem let28_any (l : List UInt8) (w : World) (hl : l.length ≤ 1000000) : Calls Tryd.prog 28 #[.string (bs l)] w fun e w' => e = .returned (.bool (letterD l).isSome) ∧ w' = w := by
  have hsz := bs_size l
  by_cases h1 : l.length = 1
  · obtain ⟨c, rfl⟩ : ∃ c, l = [c] := List.length_eq_one_iff.1 h1
    have hz1 : (bs [c]).size = 1 := hsz
    have hg : (bs [c])[0]'(by rw [hz1]; decide) = c := rfl
    have hcn : c.toNat < 256 := c.toNat_lt
    have HD : Hid (letterD [c] = if (65 ≤ c.toNat ∧ c.toNat ≤ 90) ∨ (97 ≤ c.toNat ∧ c.toNat ≤ 122) then some (c.toNat : Int) else none) := rfl
    clear hsz h1 hl
    by_cases a1 : (65 : Int) ≤ (c.toNat : Int) <;> by_cases a2 : (c.toNat : Int) ≤ 90 <;> by_cases a3 : (97 : Int) ≤ (c.toNat : Int) <;> by_cases a4 : (c.toNat : Int) ≤ 122
    all_goals first
      | (exfalso; omega)
      | (go_enter Tryd.func28, Tryd.ntmps28
         go_wp2
         go_ret
         refine ⟨?_, rfl⟩
         rw [HD.out]
         first
           | (rw [if_pos (by omega)]; rfl)
           | (rw [if_neg (by omega)]; rfl))
  · have hI : ((l.length : Int) == 1) = false := by rw [beq_eq_false_iff_ne]; omega
    have hd : letterD l = none := by
      unfold letterD
      split
      · simp at h1
      · rfl
    rw [hd]
    clear h1
    go_enter Tryd.func28, Tryd.ntmps28
    go_wp2
    go_ret
    exact ⟨rfl, rfl⟩
theorem dots_end {l : List UInt8} (h : l.length ≤ 1) : dotsD l = none := by
  match l, h with
  | [], _ => rfl
  | [_], _ => rfl
  | _ :: _ :: _, h => simp at h
theorem dots_hit {s : List UInt8} {i : Nat} (h : i + 1 < s.length) (h1 : s[i] = 46) (h2 : s[i + 1] = 46) : dotsD (s.drop i) = some ([], s.drop (i + 2)) := by
  rw [drop_cons (by omega), drop_cons h, dotsD, if_pos ⟨h1, h2⟩]
theorem dots_miss {s : List UInt8} {i : Nat} (h : i + 1 < s.length) (h1 : ¬ (s[i] = 46 ∧ s[i + 1] = 46)) : dotsD (s.drop i) = (dotsD (s.drop (i + 1))).map fun (x, y) => (s[i] :: x, y) := by
  rw [drop_cons (by omega : i < s.length), drop_cons h, dotsD, if_neg h1]
theorem dots_next {s : List UInt8} {i : Nat} (h : i + 1 < s.length) (h1 : ¬ (s[i] = 46 ∧ s[i + 1] = 46)) (hd : dotsD s = (dotsD (s.drop i)).map fun (x, y) => (s.take i ++ x, y)) : dotsD s = (dotsD (s.drop (i + 1))).map fun (x, y) => (s.take (i + 1) ++ x, y) := by
  rw [hd, dots_miss h h1]
  cases dotsD (s.drop (i + 1)) with
  | none => rfl
  | some p =>
    obtain ⟨x, y⟩ := p
    show some (s.take i ++ s[i] :: x, y) = some (s.take (i + 1) ++ x, y)
    rw [take_snoc (by omega), List.append_assoc]
    rfl
def rowV4 : Option (Int × Int × Bool) → Value
  | none => .tuple #[.int .i64 0, .int .i64 0, .bool false, .bool false]
  | some (a, b, l) => .tuple #[.int .i64 a, .int .i64 b, .bool l, .bool true]
theorem letter_form {l : List UInt8} {a : Int} (h : letterD l = some a) : ∃ c : UInt8, l = [c] ∧ a = (c.toNat : Int) := by
  unfold letterD at h
  split at h
  · rename_i c
    split at h
    · cases h; exact ⟨c, rfl, rfl⟩
    · cases h
  · cases h
theorem wrap64_byte (c : UInt8) : wrap64 (c.toNat : Int) = (c.toNat : Int) := by
  have := c.toNat_lt
  unfold wrap64
  omega
theorem four_of {s : List UInt8} {i : Nat} {c d : UInt8} (h : i + 1 < s.length) (h1 : s.take i = [c]) (h2 : s.drop (i + 2) = [d]) : s.length = 4 ∧ s[0]'(by omega) = c ∧ s[s.length - 1]'(by omega) = d := by
  have l1 := congrArg List.length h1
  have l2 := congrArg List.length h2
  rw [List.length_take] at l1
  rw [List.length_drop] at l2
  simp at l1 l2
  have hi : i = 1 := by omega
  subst hi
  have h4 : s.length = 4 := by omega
  match s, h4 with
  | [a, b, e, f], _ =>
    simp at h1 h2
    exact ⟨rfl, h1, h2⟩
set_option maxRecDepth 100000 in
set_option maxHeartbeats 4000000 in
theorem row21_any (s : List UInt8) (hs : s.length ≤ 1000000) (w : World) : Calls Tryd.prog 21 #[.string (bs s)] w fun e w' => e = .returned (rowV4 (rowD s)) ∧ ∃ n, w' = w.drewN n := by
  have hsz := bs_size s
  go_enter Tryd.func21, Tryd.ntmps21
  go_wp2
  go_loopw [6] (fun iv wr => wr = w ∧ ∃ i : Nat, iv = .int .i64 (i : Int) ∧ i ≤ s.length ∧ dotsD s = (dotsD (s.drop i)).map fun (x, y) => (s.take i ++ x, y)) (fun iv _ => s.length - (intOf iv).toNat)
  case atStart =>
    refine ⟨rfl, 0, rfl, Nat.zero_le _, ?_⟩
    rw [List.drop_zero, List.take_zero]
    cases dotsD s <;> rfl
  case round =>
    obtain ⟨rfl, i, rfl, hi, hdots⟩ := hrel
    by_cases hlt : i + 1 < s.length
    · have hiI : (i : Int) + 1 < (s.length : Int) := by omega
      have hb1 : i < (bs s).size := by rw [hsz]; omega
      have hb2 : i + 1 < (bs s).size := by rw [hsz]; exact hlt
      obtain ⟨c, hc⟩ : ∃ c, s[i] = c := ⟨_, rfl⟩
      obtain ⟨d, hd⟩ : ∃ d, s[i + 1] = d := ⟨_, rfl⟩
      have hg1 : (bs s)[i]'hb1 = c := by rw [← hc]; rfl
      have hg2 : (bs s)[i + 1]'hb2 = d := by rw [← hd]; rfl
      by_cases hcd : c = 46 ∧ d = 46
      · have e1 : ((c.toNat : Int) != 46) = false := by rw [hcd.1]; rfl
        have e2 : ((d.toNat : Int) != 46) = false := by rw [hcd.2]; rfl
        have hx : dotsD s = some (s.take i, s.drop (i + 2)) := by
          rw [hdots, dots_hit hlt (hc.trans hcd.1) (hd.trans hcd.2)]
          simp
        have HR := hide (row_of hx)
        have hw1 := whole_any (s.take i) wr (by rw [List.length_take]; omega)
        have hw2 := whole_any (s.drop (i + 2)) wr (by rw [List.length_drop]; omega)
        have hl1 := let28_any (s.take i) wr (by rw [List.length_take]; omega)
        have hl2 := let28_any (s.drop (i + 2)) wr (by rw [List.length_drop]; omega)
        rw [← bs_take s i] at hw1 hl1
        rw [← bs_drop s (i + 2) s.length (Nat.le_refl _)] at hw2 hl2
        have k1 : (i : Int) ≤ (s.length : Int) := by omega
        have k2 : (i : Int) + 2 ≤ (s.length : Int) := by omega
        have k3 : (0 : Int) ≤ (i : Int) + 2 := by omega
        have k4 : ((i : Int) + 2).toNat = i + 2 := by omega
        clear hdots hx hcd hc hd
        obtain ⟨X, hX⟩ : ∃ X, numberD (s.take i) = X := ⟨_, rfl⟩
        obtain ⟨Y, hY⟩ : ∃ Y, numberD (s.drop (i + 2)) = Y := ⟨_, rfl⟩
        rw [hX] at hw1 HR
        rw [hY] at hw2 HR
        clear hX hY
        go_wp2_with fail
        refine hw1.mono ?_
        rintro e w' ⟨⟨v1, rfl, hv1⟩, hw⟩
        rw [hw]
        clear hw hw1
        go_wp2_with fail
        refine hw2.mono ?_
        rintro e w' ⟨⟨v2, rfl, hv2⟩, hw⟩
        rw [hw]
        clear hw hw2
        have cont : (∀ a b, ¬ (X = some a ∧ Y = some b)) ∨ ∃ a b, X = some a ∧ Y = some b := by
          cases X with
          | none => left; intro a b h; cases h.1
          | some a => cases Y with
            | none => left; intro a b h; cases h.2
            | some b => right; exact ⟨a, b, rfl, rfl⟩
        rcases cont with hno | ⟨a, b, rfl, rfl⟩
        · have hb : (X.isSome && Y.isSome) = false := by
            cases X with
            | none => rfl
            | some a => cases Y with
              | none => rfl
              | some b => exact absurd ⟨rfl, rfl⟩ (hno a b)
          have HR2 : Hid (rowD s = match letterD (s.take i), letterD (s.drop (i + 2)) with
              | some a, some b => some (a, b, true)
              | _, _ => none) := by
            show rowD s = _
            rw [HR.out]
            cases X with
            | none => rfl
            | some a => cases Y with
              | none => rfl
              | some b => exact absurd ⟨rfl, rfl⟩ (hno a b)
          obtain ⟨bx, hbx⟩ : ∃ bx, X.isSome = bx := ⟨_, rfl⟩
          obtain ⟨by', hby⟩ : ∃ by', Y.isSome = by' := ⟨_, rfl⟩
          rw [hbx, hby] at hb
          simp only [hbx, hby]
          clear hbx hby hno hv1 hv2 HR
          obtain ⟨P, hP⟩ : ∃ P, letterD (s.take i) = P := ⟨_, rfl⟩
          obtain ⟨Q, hQ⟩ : ∃ Q, letterD (s.drop (i + 2)) = Q := ⟨_, rfl⟩
          have HPQ := hide (And.intro hP hQ)
          rw [hP] at hl1 HR2
          rw [hQ] at hl2 HR2
          clear hP hQ
          cases bx <;> cases by'
          case true.true => cases hb
          all_goals
            go_wp2_with fail
            refine hl1.mono ?_
            rintro e w' ⟨rfl, hw⟩
            rw [hw]
            clear hw
            go_wp2_with fail
            refine hl2.mono ?_
            rintro e w' ⟨rfl, hw⟩
            rw [hw]
            clear hw
            cases P with
            | none =>
              go_wp2
              exact bodyPost_ret (v := rowV4 none) (by simp [results, Tryd.results21, go_sem, rowV4]) rfl ⟨by rw [HR2.out], 0, rfl⟩
            | some a =>
              cases Q with
              | none =>
                go_wp2
                exact bodyPost_ret (v := rowV4 none) (by simp [results, Tryd.results21, go_sem, rowV4]) rfl ⟨by rw [HR2.out], 0, rfl⟩
              | some b =>
                obtain ⟨c', hc', ha⟩ := letter_form HPQ.out.1
                obtain ⟨d', hd', hb'⟩ := letter_form HPQ.out.2
                obtain ⟨h4, hs0, hs3⟩ := four_of hlt hc' hd'
                have q0 : 0 < (bs s).size := by rw [hsz, h4]; decide
                have q3 : 3 < (bs s).size := by rw [hsz, h4]; decide
                have g0 : (bs s)[0]'q0 = c' := by rw [← hs0]; rfl
                have g3 : (bs s)[3]'q3 = d' := by rw [← hs3]; simp only [h4]; rfl
                subst ha
                subst hb'
                have y1 : wrap64 (c'.toNat : Int) = (c'.toNat : Int) := wrap64_byte c'
                have y2 : wrap64 (d'.toNat : Int) = (d'.toNat : Int) := wrap64_byte d'
                clear hc' hd' hs0 hs3 hl1 hl2 HPQ hb k1 k2 k3 k4 hiI hlt hi hg1 hg2
                go_wp2
                go_quiet (fail)
                go_wp2
                exact bodyPost_ret (v := rowV4 (some ((c'.toNat : Int), (d'.toNat : Int), true))) (by simp [results, Tryd.results21, go_sem, rowV4, y1, y2]) rfl ⟨by rw [HR2.out], _, rfl⟩
        · have e1 := hv1 a rfl
          have e2 := hv2 b rfl
          subst e1
          subst e2
          clear hv1 hv2 hl1 hl2
          go_wp2
          exact bodyPost_ret (v := rowV4 (some (v1, v2, false))) (by simp [results, Tryd.results21, go_sem, rowV4]) rfl ⟨by rw [HR.out], 0, rfl⟩
      · have HN : Hid (dotsD s = (dotsD (s.drop (i + 1))).map fun (x, y) => (s.take (i + 1) ++ x, y)) := by
          exact dots_next hlt (fun q => hcd ⟨hc.symm.trans q.1, hd.symm.trans q.2⟩) hdots
        have hcd2 : ((c.toNat : Int) != 46) = true ∨ (((c.toNat : Int) != 46) = false ∧ ((d.toNat : Int) != 46) = true) := by
          have n1 := nat_eq c 46
          have n2 := nat_eq d 46
          have n1 : ((c.toNat : Int) == 46) = (c == 46) := n1
          have n2 : ((d.toNat : Int) == 46) = (d == 46) := n2
          rw [bne, bne, n1, n2]
          by_cases q : c = 46
          · have : ¬ d = 46 := fun e => hcd ⟨q, e⟩
            right; simp [q, this]
          · left; simp [q]
        clear hdots hc hd hcd
        rcases hcd2 with e1 | ⟨e1, e2⟩
        all_goals
          go_wp2
          go_roundw
          case rel => exact ⟨trivial, i + 1, by simp, by omega, HN.out⟩
          case measure => simp [intOf]; omega
    · have hiI : ¬ ((i : Int) + 1 < (s.length : Int)) := by omega
      have hx : dotsD s = none := by rw [hdots, dots_end (by rw [List.length_drop]; omega)]; rfl
      have HR : Hid (rowD s = none) := by show rowD s = none; unfold rowD; rw [hx]
      clear hdots hx
      go_wp2
      exact bodyPost_ret (v := rowV4 none) (by simp [results, Tryd.results21, go_sem, rowV4]) rfl ⟨by rw [HR.out], 0, rfl⟩
end Go.Proofs.YtgpgbobmpdgfeaaDoor
