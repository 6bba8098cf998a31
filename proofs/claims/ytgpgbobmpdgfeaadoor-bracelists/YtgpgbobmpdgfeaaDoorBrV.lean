/- The law BraceLists. -/
import Derived.Test.YtgpgbobmpdgfeaaDoorBrU
import Derived.Test.YtgpgbobmpdgfeaaDoorBrD
namespace Go.Proofs.YtgpgbobmpdgfeaaDoor
open Go.RowKit Go.Shelf

/-- A list of texts lies there. -/
def TxRow (W : World) (v : Value) (xs : List (List UInt8)) : Prop := (xs = [] ∧ ∃ a c, v = .slice a 0 c) ∨ ∃ g c, v = .slice (some ⟨g, 0, none⟩) xs.length c ∧ ∀ (j : Nat) (x : List UInt8), xs[j]? = some x → W.cell? ⟨g, j, none⟩ = some (.string (bs x))
theorem txRow_of {W : World} {base : Nat} {v : Value} {xs : List (List UInt8)} (h : W.ownsRow base 9 1 v xs.length (strs xs)) : TxRow W v xs := by
  rcases h.2 with ⟨q, e⟩ | ⟨g, c, cur, e, _⟩
  · exact .inl ⟨List.length_eq_zero_iff.1 e, _, _, q⟩
  · refine .inr ⟨g, c, e, fun j x hx => ?_⟩
    have := World.ownsRow.cells h (g := g) (by rw [e]; rfl) j (.string (bs x)) (by unfold strs; rw [List.getElem?_map, hx]; rfl)
    rw [show (⟨g, 0, none⟩ : Addr).add j = ⟨g, j, none⟩ by simp [Addr.add]; exact fun h => h.symm] at this
    exact this
theorem TxRow.keep {W W' : World} {v : Value} {xs : List (List UInt8)} (h : TxRow W v xs) (hk : ∀ g, v.ownBlock = some g → W'.heap[g]? = W.heap[g]?) : TxRow W' v xs := by
  rcases h with ⟨q, a, c, e⟩ | ⟨g, c, e, hx⟩
  · exact .inl ⟨q, a, c, e⟩
  · exact .inr ⟨g, c, e, fun j x hj => (World.cell?_of_block (a := ⟨g, j, none⟩) (hk g (by rw [e]; rfl))).trans (hx j x hj)⟩
set_option maxRecDepth 100000 in
set_option maxHeartbeats 1000000 in
theorem same_nil (a b : Option Addr) (ca cb : Nat) (w : World) :
    Calls Tryd.prog 8 #[.slice a 0 ca, .slice b 0 cb] w fun e w' => e = .returned (.bool true) ∧ ∃ n, w' = w.drewN n := by
  go_enter Tryd.func8, Tryd.ntmps8
  go_wp2
  refine wp_loop_rounds 1 ?_
  rw [rounds_succ]
  go_wp2
  go_ret
  exact ⟨rfl, 0, rfl⟩
set_option maxRecDepth 100000 in
set_option maxHeartbeats 1000000 in
theorem same_more (g ca g2 cb : Nat) (xs : List (List UInt8)) (w : World) (hl : xs.length ≤ 1073741825) (hx : ∀ (j : Nat) (x : List UInt8), xs[j]? = some x → w.cell? ⟨g, j, none⟩ = some (.string (bs x))) (hx2 : ∀ (j : Nat) (x : List UInt8), xs[j]? = some x → w.cell? ⟨g2, j, none⟩ = some (.string (bs x))) :
    Calls Tryd.prog 8 #[.slice (some ⟨g, 0, none⟩) xs.length ca, .slice (some ⟨g2, 0, none⟩) xs.length cb] w fun e w' => e = .returned (.bool true) ∧ ∃ n, w' = w.drewN n := by
  have hne : ((xs.length : Int) != (xs.length : Int)) = false := by simp
  go_enter Tryd.func8, Tryd.ntmps8
  go_wp2
  go_loopw [5] (fun iv wr => ∃ k n : Nat, k ≤ xs.length ∧ iv = .int .i64 k ∧ wr = w.drewN n) (fun iv _ => xs.length - (intOf iv).toNat)
  case atStart => exact ⟨0, 0, Nat.zero_le _, rfl, rfl⟩
  case round =>
    obtain ⟨k, n, hk, rfl, rfl⟩ := hrel
    by_cases hlt : k < xs.length
    · obtain ⟨x, hxk⟩ : ∃ x, xs[k]? = some x := ⟨_, List.getElem?_eq_getElem hlt⟩
      have hc1 := hx k x hxk
      have hc2 := hx2 k x hxk
      clear hx hx2 hxk
      go_wp2
      go_quiet (fail)
      go_wp2
      go_roundw
      case rel => exact ⟨k + 1, n + nq, by omega, by go_num, rfl⟩
      case measure => simp [intOf]; omega
    · obtain rfl : k = xs.length := by omega
      go_wp2
      go_ret
      exact ⟨rfl, n, rfl⟩
theorem same_any {va vb : Value} {xs : List (List UInt8)} {w : World} (hl : xs.length ≤ 1073741825) (ha : TxRow w va xs) (hb : TxRow w vb xs) :
    Calls Tryd.prog 8 #[va, vb] w fun e w' => e = .returned (.bool true) ∧ ∃ n, w' = w.drewN n := by
  rcases ha with ⟨rfl, a, ca, rfl⟩ | ⟨g, ca, rfl, hx⟩
  · rcases hb with ⟨_, b, cb, rfl⟩ | ⟨g2, cb, rfl, hx2⟩
    · exact same_nil a b ca cb w
    · exact same_nil a _ ca cb w
  · rcases hb with ⟨rfl, b, cb, rfl⟩ | ⟨g2, cb, rfl, hx2⟩
    · exact same_nil _ b ca cb w
    · exact same_more g ca g2 cb xs w hl hx hx2
set_option maxRecDepth 100000 in
theorem num_any (e : Int) (w : World) : Calls Tryd.prog 9 #[.int .i64 e] w fun r w' => r = .returned (.int .i64 e) ∧ w' = w := by
  go_enter Tryd.func9, Tryd.ntmps9
  go_wp2
  go_ret
  exact ⟨rfl, rfl⟩
set_option maxRecDepth 100000 in
set_option maxHeartbeats 8000000 in
theorem lists_any (a x y b : List UInt8) (w : World) (hG : GW w) (ha : a.length ≤ 200000000000000) (hx : x.length ≤ 200000000000000) (hy : y.length ≤ 200000000000000) (hb : b.length ≤ 200000000000000) :
    Calls Tryd.prog 4 #[.string (bs a), .string (bs x), .string (bs y), .string (bs b)] w fun e w' => e = .returned (.bool true) ∧ Below w.heap.size w w' := by
  obtain ⟨A1, hA1⟩ : ∃ A, a ++ x = A := ⟨_, rfl⟩
  obtain ⟨A2, hA2⟩ : ∃ A, A1 ++ y = A := ⟨_, rfl⟩
  obtain ⟨A3, hA3⟩ : ∃ A, A2 ++ b = A := ⟨_, rfl⟩
  have e1 : bs a ++ bs x = bs A1 := by rw [bs_add, hA1]
  have e2 : bs A1 ++ bs y = bs A2 := by rw [bs_add, hA2]
  have e3 : bs A2 ++ bs b = bs A3 := by rw [bs_add, hA3]
  have za := bs_size a
  have zx := bs_size x
  have zy := bs_size y
  have zb := bs_size b
  have z1 := bs_size A1
  have z2 := bs_size A2
  have z3 := bs_size A3
  have l1 : A1.length = a.length + x.length := by rw [← hA1, List.length_append]
  have l2 : A2.length = A1.length + y.length := by rw [← hA2, List.length_append]
  have l3 : A3.length = A2.length + b.length := by rw [← hA3, List.length_append]
  have b1 : A1.length ≤ 400000000000000 := by omega
  have b2 : A2.length ≤ 600000000000000 := by omega
  have b3 : A3.length ≤ 800000000000000 := by omega
  have HA := hide (And.intro hA1 (And.intro hA2 (And.intro hA3 (And.intro l1 (And.intro l2 l3)))))
  clear hA1 hA2 hA3 l1 l2 l3
  go_enter Tryd.func4, Tryd.ntmps4
  go_wp2
  go_loopw [10] (fun iv wr => wr = w ∧ ∃ i : Nat, iv = .int .i64 (i : Int) ∧ i ≤ A3.length ∧ ∀ c ∈ A3.take i, c ≠ 92 ∧ isSign c = false) (fun iv _ => A3.length - (intOf iv).toNat)
  case atStart => exact ⟨rfl, 0, rfl, Nat.zero_le _, by simp⟩
  case round =>
    obtain ⟨rfl, i, rfl, hi, hall⟩ := hrel
    by_cases hlt : i < A3.length
    · have hiI : (i : Int) < (A3.length : Int) := by omega
      obtain ⟨c, hc⟩ : ∃ c, A3[i] = c := ⟨_, rfl⟩
      have hbk : i < (bs A3).size := by rw [z3]; exact hlt
      have hg : (bs A3)[i]'hbk = c := by rw [← hc]; rfl
      have hcl : A3.take (i + 1) = A3.take i ++ [c] := by rw [take_snoc hlt, hc]
      have HT := hide (And.intro hcl hall)
      clear hcl hall hc
      rcases byte_cases c with ⟨q1, hc1⟩ | ⟨q1, hc1, hc2, hcs⟩ | ⟨q1, q2, q3, q4, hc1, hc2⟩
      · clear hc1
        cases h1 : ((c.toNat : Int) == 123) <;> cases h2 : ((c.toNat : Int) == 125) <;> cases h3 : ((c.toNat : Int) == 44)
        all_goals
          go_wp2
          go_ret
          exact ⟨rfl, Below.refl _ _⟩
      · clear hc1 hc2
        rcases hcs with q2 | ⟨q2, q3⟩ | ⟨q2, q3, q4⟩
        all_goals
          go_wp2
          go_ret
          exact ⟨rfl, Below.refl _ _⟩
      · have HC := hide (And.intro hc1 hc2)
        clear hc1 hc2
        go_wp2
        go_roundw
        case rel =>
          refine ⟨trivial, i + 1, by simp, by omega, ?_⟩
          rw [HT.out.1]
          intro z hz
          rcases List.mem_append.1 hz with q | q
          · exact HT.out.2 z q
          · simp at q
            subst q
            exact HC.out
        case measure => simp [intOf]; omega
    · have hiI : ¬ ((i : Int) < (A3.length : Int)) := by omega
      rw [List.take_of_length_le (by omega)] at hall
      have hst : Still a ∧ Still x ∧ Still y ∧ Still b := by
        obtain ⟨h1, h2, h3, _⟩ := HA.out
        rw [← h3, ← h2, ← h1] at hall
        exact ⟨fun c h => hall c (by simp [h]), fun c h => hall c (by simp [h]), fun c h => hall c (by simp [h]), fun c h => hall c (by simp [h])⟩
      have HST := hide hst
      clear hst hall e1 e2 e3 z1 z2
      obtain ⟨S1, hS1⟩ : ∃ S, a ++ [123] = S := ⟨_, rfl⟩
      obtain ⟨S2, hS2⟩ : ∃ S, S1 ++ x = S := ⟨_, rfl⟩
      obtain ⟨S3, hS3⟩ : ∃ S, S2 ++ [44] = S := ⟨_, rfl⟩
      obtain ⟨S4, hS4⟩ : ∃ S, S3 ++ y = S := ⟨_, rfl⟩
      obtain ⟨S5, hS5⟩ : ∃ S, S4 ++ [125] = S := ⟨_, rfl⟩
      obtain ⟨S6, hS6⟩ : ∃ S, S5 ++ b = S := ⟨_, rfl⟩
      have e1 : bs a ++ ⟨#[123]⟩ = bs S1 := by rw [← hS1]; exact bs_add a [123]
      have e2 : bs S1 ++ bs x = bs S2 := by rw [bs_add, hS2]
      have e3 : bs S2 ++ ⟨#[44]⟩ = bs S3 := by rw [← hS3]; exact bs_add S2 [44]
      have e4 : bs S3 ++ bs y = bs S4 := by rw [bs_add, hS4]
      have e5 : bs S4 ++ ⟨#[125]⟩ = bs S5 := by rw [← hS5]; exact bs_add S4 [125]
      have e6 : bs S5 ++ bs b = bs S6 := by rw [bs_add, hS6]
      have y1 := bs_size S1
      have y2 := bs_size S2
      have y3 := bs_size S3
      have y4 := bs_size S4
      have y5 := bs_size S5
      have m1 : S1.length = a.length + 1 := by rw [← hS1, List.length_append]; rfl
      have m2 : S2.length = S1.length + x.length := by rw [← hS2, List.length_append]
      have m3 : S3.length = S2.length + 1 := by rw [← hS3, List.length_append]; rfl
      have m4 : S4.length = S3.length + y.length := by rw [← hS4, List.length_append]
      have m5 : S5.length = S4.length + 1 := by rw [← hS5, List.length_append]; rfl
      have m6 : S6.length = S5.length + b.length := by rw [← hS6, List.length_append]
      have t1 : S1.length ≤ 200000000000001 := by omega
      have t2 : S2.length ≤ 400000000000001 := by omega
      have t3 : S3.length ≤ 400000000000002 := by omega
      have t4 : S4.length ≤ 600000000000002 := by omega
      have t5 : S5.length ≤ 600000000000003 := by omega
      have hS : S6 = a ++ 123 :: (x ++ 44 :: (y ++ 125 :: b)) := by
        rw [← hS6, ← hS5, ← hS4, ← hS3, ← hS2, ← hS1]
        simp [List.append_assoc]
      have hlen : S6.length = A3.length + 3 := by
        obtain ⟨_, _, _, l1, l2, l3⟩ := HA.out
        omega
      have hex := expand_any S6 wr hG (by omega)
      have HS := hide (And.intro hS hlen)
      clear hS hlen m1 m2 m3 m4 m5 m6 hS1 hS2 hS3 hS4 hS5 hS6
      by_cases hbig : 200 < A3.length + 3
      · have hbI : (200 : Int) < (A3.length : Int) + 3 := by omega
        go_wp2_with fail
        refine hex.mono ?_
        rintro e w2 ⟨v, err, rfl, hB2, hcase⟩
        have hcase : err = 1 ∧ v = .slice none 0 0 := by
          have hl := HS.out.2
          rcases hcase with ⟨_, h1, h2⟩ | ⟨h, _⟩ | ⟨h, _⟩
          · exact ⟨h1, h2⟩
          · omega
          · omega
        rw [hcase.1, hcase.2]
        clear hcase hex e1 e2 e3 e4 e5 e6
        go_wp2_with fail
        refine (num_any _ _).mono ?_
        rintro e w3 ⟨rfl, hw⟩
        rw [hw]
        clear hw
        go_wp2
        go_ret
        exact ⟨rfl, hB2⟩
      · have hbI : ¬ ((200 : Int) < (A3.length : Int) + 3) := by omega
        go_wp2_with fail
        refine hex.mono ?_
        rintro e w2 ⟨v, err, rfl, hB2, hcase⟩
        obtain ⟨P1, hP1⟩ : ∃ S, a ++ x = S := ⟨_, rfl⟩
        obtain ⟨T1, hT1⟩ : ∃ S, P1 ++ b = S := ⟨_, rfl⟩
        obtain ⟨P2, hP2⟩ : ∃ S, a ++ y = S := ⟨_, rfl⟩
        obtain ⟨T2, hT2⟩ : ∃ S, P2 ++ b = S := ⟨_, rfl⟩
        have htx : textsD S6.length S6 = [T1, T2] := by
          obtain ⟨hS, hl⟩ := HS.out
          obtain ⟨s1, s2, s3, s4⟩ := HST.out
          rw [hl, hS, ← hT1, ← hT2, ← hP1, ← hP2]
          exact texts_group s1 s2 s3 s4 (A3.length + 2)
        have hcase : err = 0 ∧ w2.ownsRow wr.heap.size 9 1 v 2 (strs [T1, T2]) := by
          have hl := HS.out.2
          rcases hcase with ⟨h, _⟩ | ⟨_, h, _⟩ | ⟨_, _, h1, h2⟩
          · omega
          · rw [htx] at h; simp at h
          · rw [htx] at h2; exact ⟨h1, h2⟩
        obtain ⟨rfl, hrow⟩ := hcase
        obtain ⟨va, vc, rfl⟩ := ownsRow_form hrow
        have d1 : bs a ++ bs x = bs P1 := by rw [bs_add, hP1]
        have d2 : bs P1 ++ bs b = bs T1 := by rw [bs_add, hT1]
        have d3 : bs a ++ bs y = bs P2 := by rw [bs_add, hP2]
        have d4 : bs P2 ++ bs b = bs T2 := by rw [bs_add, hT2]
        have f1 := bs_size P1
        have f2 := bs_size P2
        have f3 : P1.length ≤ 400000000000000 := by rw [← hP1, List.length_append]; omega
        have f4 : P2.length ≤ 400000000000000 := by rw [← hP2, List.length_append]; omega
        have hk1 : TxRow (w2.alloc (.cells #[.string (bs T1), .string (bs T2)] 9)) (.slice va 2 vc) [T1, T2] := (txRow_of (xs := [T1, T2]) hrow).keep (fun g hg => Below.heap_alloc _ _ _ (ownsRow_lt hrow hg).2)
        have hk2 : TxRow (w2.alloc (.cells #[.string (bs T1), .string (bs T2)] 9)) (.slice (some ⟨w2.heap.size, 0, none⟩) 2 2) [T1, T2] := by
          refine .inr ⟨w2.heap.size, 2, rfl, fun j z hz => ?_⟩
          have hn := World.alloc_heap_new w2 (.cells #[.string (bs T1), .string (bs T2)] 9)
          simp only [World.cell?, hn]
          match j, hz with
          | 0, hz => cases hz; rfl
          | 1, hz => cases hz; rfl
          | j + 2, hz => cases hz
        have hsm := same_any (xs := [T1, T2]) (by show 2 ≤ 1073741825; decide) hk1 hk2
        have HB := hide hB2
        clear hex e1 e2 e3 e4 e5 e6 htx hrow hP1 hP2 hT1 hT2 hB2 hk1 hk2
        go_wp2_with fail
        refine (num_any _ _).mono ?_
        rintro e w3 ⟨rfl, hw⟩
        rw [hw]
        clear hw
        go_wp2_with fail
        refine hsm.mono ?_
        rintro e w4 ⟨rfl, n, hw⟩
        rw [hw]
        clear hw hsm
        go_wp2
        go_ret
        exact ⟨rfl, HB.out.trans (((Below.refl _ w2).alloc HB.out.size _).trans ⟨rfl, rfl, rfl, Nat.le_refl _, fun _ _ => rfl⟩)⟩
end Go.Proofs.YtgpgbobmpdgfeaaDoor
