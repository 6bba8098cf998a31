/- The law BraceBoth. -/
import Derived.Test.YtgpgbobmpdgfeaaDoorBsF
import Derived.Test.YtgpgbobmpdgfeaaDoorBrB
import Derived.Laws.OwnMore
namespace Go.Proofs.YtgpgbobmpdgfeaaDoor
open Go.RowKit Go.Shelf

theorem err_ahead {s t : List UInt8} (h1 : ∀ c ∈ s, c ≠ 92 ∧ c ≠ 123) (hl : s.length + t.length ≤ 200) : errD (s ++ t) = errD t ∧ listD (s ++ t) = (listD t).map (s ++ ·) := by
  have hl2 : (s ++ t).length ≤ 200 := by rw [List.length_append]; omega
  have ht : textsD (s ++ t).length (s ++ t) = (textsD t.length t).map (s ++ ·) := by
    rw [texts_ahead _ s t (fun c h => (h1 c h).1) (fun c h => (h1 c h).2), texts_fuel (s ++ t).length t.length t (by rw [List.length_append]; omega) (Nat.le_refl _)]
  have hn : (textsD (s ++ t).length (s ++ t)).length = (textsD t.length t).length := by rw [ht, List.length_map]
  rcases errD_cases (s ++ t) with ⟨q, _⟩ | ⟨_, q, q1, q2⟩ | ⟨_, q, q1, q2⟩
  · omega
  · rcases errD_cases t with ⟨r, _⟩ | ⟨_, r, r1, r2⟩ | ⟨_, r, r1, r2⟩
    · omega
    · rw [q1, q2, r1, r2]
      exact ⟨rfl, rfl⟩
    · omega
  · rcases errD_cases t with ⟨r, _⟩ | ⟨_, r, r1, r2⟩ | ⟨_, r, r1, r2⟩
    · omega
    · omega
    · rw [q1, q2, r1, r2]
      exact ⟨rfl, ht⟩
theorem byte_ne {c : UInt8} {n : Nat} {d : UInt8} (hd : d.toNat = n) (h : ((c.toNat : Int) == (n : Int)) = false) : c ≠ d := by
  rintro rfl
  rw [hd] at h
  simp at h
set_option maxRecDepth 100000 in
set_option maxHeartbeats 8000000 in
theorem both_any (s t : List UInt8) (w : World) (hG : GW w) (hs : s.length ≤ 200000000000000) (ht : t.length ≤ 200000000000000) :
    Calls Tryd.prog 5 #[.string (bs s), .string (bs t)] w fun e w' => e = .returned (.bool true) ∧ Below w.heap.size w w' := by
  have zs := bs_size s
  have zt := bs_size t
  have hw2 : 2 ≤ w.heap.size := by have := hG.lt; omega
  obtain ⟨A, hA⟩ : ∃ A, s ++ t = A := ⟨_, rfl⟩
  have e1 : bs s ++ bs t = bs A := by rw [bs_add, hA]
  have lA : A.length = s.length + t.length := by rw [← hA, List.length_append]
  have HA := hide hA
  clear hA
  go_enter Tryd.func5, Tryd.ntmps5
  go_wp2
  go_loopw [5] (fun iv wr => wr = w ∧ ∃ i : Nat, iv = .int .i64 (i : Int) ∧ i ≤ s.length ∧ ∀ c ∈ s.take i, c ≠ 92 ∧ c ≠ 123) (fun iv _ => s.length - (intOf iv).toNat)
  case atStart => exact ⟨rfl, 0, rfl, Nat.zero_le _, by simp⟩
  case round =>
    obtain ⟨rfl, i, rfl, hi, hall⟩ := hrel
    by_cases hlt : i < s.length
    · have hiI : (i : Int) < (s.length : Int) := by omega
      obtain ⟨c, hc⟩ : ∃ c, s[i] = c := ⟨_, rfl⟩
      have hbk : i < (bs s).size := by rw [zs]; exact hlt
      have hg : (bs s)[i]'hbk = c := by rw [← hc]; rfl
      have hcl : s.take (i + 1) = s.take i ++ [c] := by rw [take_snoc hlt, hc]
      have HT := hide (And.intro hcl hall)
      clear hcl hall hc
      cases h1 : ((c.toNat : Int) == 92) <;> cases h2 : ((c.toNat : Int) == 123) <;> cases h3 : ((c.toNat : Int) == 125)
      · have hc1 : c ≠ 92 := byte_ne (n := 92) rfl h1
        have hc2 : c ≠ 123 := byte_ne (n := 123) rfl h2
        have HC := hide (And.intro hc1 hc2)
        clear hc1 hc2
        go_wp2
        go_roundw
        case rel =>
          refine ⟨trivial, i + 1, by simp, by omega, ?_⟩
          rw [HT.out.1]
          intro z hz
          rcases List.mem_append.1 hz with q | q
          · exact HT.out.2 z q
          · simp at q
            subst q
            exact HC.out
        case measure => simp [intOf]; omega
      all_goals
        go_wp2
        go_ret
        exact ⟨rfl, Below.refl _ _⟩
    · have hiI : ¬ ((i : Int) < (s.length : Int)) := by omega
      rw [List.take_of_length_le (by omega)] at hall
      have HALL := hide hall
      have hx1 := expand_any A wr hG (by omega)
      obtain ⟨xs, hxs⟩ : ∃ xs, listD A = xs := ⟨_, rfl⟩
      obtain ⟨ea, hea⟩ : ∃ er, errD A = er := ⟨_, rfl⟩
      obtain ⟨ys, hys⟩ : ∃ ys, listD t = ys := ⟨_, rfl⟩
      obtain ⟨et, het⟩ : ∃ er, errD t = er := ⟨_, rfl⟩
      have HX := hide (And.intro hxs (And.intro hea (And.intro hys het)))
      have hxl : xs.length ≤ 200 := by rw [← hxs]; exact listD_len A
      have hyl : ys.length ≤ 200 := by rw [← hys]; exact listD_len t
      clear hall hxs hea hys het
      go_wp2_with fail
      refine hx1.mono ?_
      rintro e w1 h1
      obtain ⟨a1, c1, rfl, hb1, hr1⟩ := expV_one h1
      rw [HX.out.1] at hr1
      rw [HX.out.1, HX.out.2.1]
      clear h1 hx1
      have hx2 := expand_any t w1 (hG.below hb1 hw2) (by omega)
      go_wp2_with fail
      refine hx2.mono ?_
      rintro e w2 h2
      obtain ⟨a2, c2, rfl, hb2, hr2⟩ := expV_one h2
      rw [HX.out.2.2.1] at hr2
      rw [HX.out.2.2.1, HX.out.2.2.2]
      clear h2 hx2
      have hx3 := expandD_any t w2 (by omega)
      go_wp2_with fail
      refine hx3.mono ?_
      rintro e w3 h3
      obtain ⟨a3, c3, rfl, hb3, _⟩ := expV_one h3
      rw [HX.out.2.2.1, HX.out.2.2.2]
      clear h3 hx3
      have hr1c := ownsRow_block (ownsRow_block hr1 (fun g _ hlt => hb2.block g hlt)) (fun g hg hlt => hb3.block g hlt)
      have hr2c := ownsRow_block hr2 (fun g _ hlt => hb3.block g hlt)
      have hB : Below wr.heap.size wr w3 := hb1.trans ((hb2.mono hb1.size).trans (hb3.mono (Nat.le_trans hb1.size hb2.size)))
      have HB := hide (And.intro hB (And.intro hr1c hr2c))
      have t1 := txRow_of hr1c
      have t2 := txRow_of hr2c
      clear hr1 hr2 hb1 hb2 hb3 hB hr1c hr2c
      have q1 : (et != et) = false := by simp
      have q2 : (et == et) = true := by simp
      by_cases hbg : 200 < s.length + t.length
      · have hbI : (200 : Int) < (s.length : Int) + (t.length : Int) := by omega
        go_wp2_with fail
        refine (num_any _ _).mono ?_
        rintro e w4 ⟨rfl, hw⟩
        rw [hw]
        clear hw
        go_wp2_with fail
        refine (num_any _ _).mono ?_
        rintro e w4 ⟨rfl, hw⟩
        rw [hw]
        clear hw
        go_wp2
        go_ret
        exact ⟨rfl, HB.out.1⟩
      · have hbI : ¬ ((200 : Int) < (s.length : Int) + (t.length : Int)) := by omega
        have hah : ea = et ∧ xs = ys.map (s ++ ·) := by
          obtain ⟨k1, k2, k3, k4⟩ := HX.out
          rw [← k1, ← k2, ← k3, ← k4, ← HA.out]
          exact err_ahead HALL.out (by omega)
        obtain ⟨rfl, hxy⟩ := hah
        have hln : xs.length = ys.length := by rw [hxy, List.length_map]
        rw [hln] at t1 ⊢
        clear q2
        have q3 : ((ys.length : Int) != (ys.length : Int)) = false := by simp
        by_cases h0 : ea = 0
        · subst h0
          go_wp2_with fail
          refine (num_any _ _).mono ?_
          rintro e w4 ⟨rfl, hw⟩
          rw [hw]
          clear hw
          go_wp2_with fail
          refine (num_any _ _).mono ?_
          rintro e w4 ⟨rfl, hw⟩
          rw [hw]
          clear hw
          go_wp2
          go_loopw [12] (fun iv wr' => ∃ k n : Nat, k ≤ ys.length ∧ iv = .int .i64 (k : Int) ∧ wr' = w3.drewN n) (fun iv _ => ys.length - (intOf iv).toNat)
          case atStart => exact ⟨0, 0, Nat.zero_le _, rfl, rfl⟩
          case round =>
            obtain ⟨k, n, hk, rfl, rfl⟩ := hrel
            by_cases hlt : k < ys.length
            · have hkI : (k : Int) < (ys.length : Int) := by omega
              obtain ⟨y, hy⟩ : ∃ y, ys[k]? = some y := ⟨_, List.getElem?_eq_getElem hlt⟩
              have hx : xs[k]? = some (s ++ y) := by rw [hxy, List.getElem?_map, hy]; rfl
              rcases t1 with ⟨q, _⟩ | ⟨g1, d1, p1, hc1⟩
              · rw [q] at hln; simp at hln; omega
              rcases t2 with ⟨q, _⟩ | ⟨g2, d2, p2, hc2⟩
              · rw [q] at hlt; simp at hlt
              rw [hln] at p1
              cases p1
              cases p2
              have k1 := hc1 k _ hx
              have k2 := hc2 k _ hy
              have hyb : y.length ≤ 10000000 := by
                have hm : y ∈ listD t := by rw [HX.out.2.2.1]; exact List.mem_of_getElem? hy
                rcases errD_cases t with ⟨_, _, q⟩ | ⟨_, _, _, q⟩ | ⟨_, _, _, q⟩
                · rw [q] at hm; cases hm
                · rw [q] at hm; cases hm
                · rw [q] at hm
                  have := texts_bound _ t y hm
                  omega
              have ad1 : ∀ w, (Op.stringOp .add (bs s) (bs y)).run Tryd.prog w = .ok (.string (bs (s ++ y))) w := fun w => by
                have := run_string_add_sum (P := Tryd.prog) (w := w) (bs s) (bs y) (by rw [bs_size, bs_size]; omega)
                rw [bs_add] at this
                exact this
              clear hx hy hc1 hc2 hxy
              go_wp2
              go_quiet (fail)
              go_wp2
              go_roundw
              case rel => exact ⟨k + 1, n + nq, by omega, by go_num, rfl⟩
              case measure => simp [intOf]; omega
            · have hkI : ¬ ((k : Int) < (ys.length : Int)) := by omega
              go_wp2
              go_ret
              exact ⟨rfl, HB.out.1.trans ⟨rfl, rfl, rfl, Nat.le_refl _, fun _ _ => rfl⟩⟩
        · have h1 : (ea != 0) = true := by simpa using h0
          have hn0 : ys.length = 0 := by
            obtain ⟨k1, k2, k3, k4⟩ := HX.out
            rcases errD_cases t with ⟨_, _, q⟩ | ⟨_, _, _, q⟩ | ⟨_, _, q, _⟩
            · rw [← k3, q]; rfl
            · rw [← k3, q]; rfl
            · exact absurd (k4.symm.trans q) h0
          rw [hn0]
          go_wp2_with fail
          refine (num_any _ _).mono ?_
          rintro e w4 ⟨rfl, hw⟩
          rw [hw]
          clear hw
          go_wp2_with fail
          refine (num_any _ _).mono ?_
          rintro e w4 ⟨rfl, hw⟩
          rw [hw]
          clear hw
          have q2 : (ea == ea) = true := by simp
          go_wp2
          go_ret
          exact ⟨rfl, HB.out.1⟩
end Go.Proofs.YtgpgbobmpdgfeaaDoor
