/- The document's texts of a row. -/
import Derived.Test.YtgpgbobmpdgfeaaDoorBrX
import Derived.Test.YtgpgbobmpdgfeaaDoorBrY
namespace Go.Proofs.YtgpgbobmpdgfeaaDoor
open Go.RowKit Go.Shelf

theorem below_push {B n : Nat} {w wr w1 : World} {v : Value} {xs : List Value} {tmp : Obj} (hB : Below B w wr) (hw : B ≤ w.heap.size) (hown : wr.ownsRow B 9 1 v n xs) (hg : (wr.alloc tmp).grownBy w1 v.ownBlock) : Below B w w1 := by
  have := hB.size
  exact (hB.alloc (by omega) tmp).grown hg (by simp; omega) (fun k e => (ownsRow_lt hown e).1)
theorem row_push {w : World} {B n : Nat} {v : Value} {xs : List (List UInt8)} {x : List UInt8} (h : w.ownsRow B 9 1 v (n + 1) (strs xs ++ [.string (bs x)])) (hn : n = xs.length) : w.ownsRow B 9 1 v (xs ++ [x]).length (strs (xs ++ [x])) := by
  rw [List.length_append, List.length_singleton, ← hn, show strs (xs ++ [x]) = strs xs ++ [.string (bs x)] from List.map_append]
  exact h
theorem cell_one_new' (W : World) (x : Value) (t : TypeId) (m : Nat) (h : W.heap.size = m) : ∀ (j : Nat) (u : Value), [x][j]? = some u → (W.alloc (.cells #[x] t)).cell? ((⟨m, 0, none⟩ : Addr).add j) = some u := by
  subst h
  exact cell_one_new W x t
theorem und22 : Tryd.prog.underlying 22 = some (.slice 9) := u22
def rowsD (a b : Int) (l : Bool) : List (List UInt8) := (numsD a b).map (rowTextD l)
theorem rows_take {a b : Int} {l : Bool} {i : Nat} (h : i < (b - a).natAbs + 1) : (rowsD a b l).take (i + 1) = (rowsD a b l).take i ++ [rowTextD l (nthD a b i)] := by
  unfold rowsD
  rw [← List.map_take, nums_take h, List.map_append, List.map_take]
  rfl
theorem rows_count (a b : Int) (l : Bool) : (rowsD a b l).length = (b - a).natAbs + 1 := by unfold rowsD; rw [List.length_map, nums_len]
theorem rows_all {a b : Int} {l : Bool} {i : Nat} (h : i ≤ 200) (hi : (b - a).natAbs ≤ i) : (rowsD a b l).take 201 = (rowsD a b l).take (i + 1) := by
  rw [List.take_of_length_le (by rw [rows_count]; omega), List.take_of_length_le (by rw [rows_count]; omega)]
theorem steps_less {a b n n' : Int} {i : Nat} (hi : i < (b - a).natAbs) (h : nthD a b i = n) (h' : nthD a b (i + 1) = n') : (if b < a then (n' - b).toNat else (b - n').toNat) < (if b < a then (n - b).toNat else (b - n).toNat) := by
  unfold nthD at h h'
  by_cases hab : b < a
  · simp only [hab, if_true] at h h' ⊢
    omega
  · simp only [hab, if_false] at h h' ⊢
    omega
def stepsLeft (a b n : Int) : Nat := if b < a then (n - b).toNat else (b - n).toNat
set_option maxRecDepth 100000 in
set_option maxHeartbeats 4000000 in
theorem row22_any (a b : Int) (l : Bool) (hl : l = true → (0 ≤ a ∧ a < 256) ∧ (0 ≤ b ∧ b < 256)) (ha : -1000000 ≤ a ∧ a ≤ 1000000) (hb : -1000000 ≤ b ∧ b ≤ 1000000) (w : World) :
    Calls Tryd.prog 22 #[.int .i64 a, .int .i64 b, .bool l] w fun e w' => ∃ v, e = .returned v ∧ w'.ownsRow w.heap.size 9 1 v ((rowsD a b l).take 201).length (strs ((rowsD a b l).take 201)) ∧ Below w.heap.size w w' := by
  obtain ⟨i0, hi, hz0, hz1, hz2⟩ := info_parts Tryd.info9
  obtain ⟨st, hst⟩ : ∃ st, stepD a b = st := ⟨_, rfl⟩
  have hsb : st = 1 ∨ st = -1 := by rw [← hst]; unfold stepD; split <;> simp
  have main : ∀ (R : Ending → World → Prop), (∀ v w', w'.ownsRow w.heap.size 9 1 v ((rowsD a b l).take 201).length (strs ((rowsD a b l).take 201)) → Below w.heap.size w w' → R (.returned v) w') → Calls Tryd.prog 22 #[.int .i64 a, .int .i64 b, .bool l] w R := by
    intro R hR
    by_cases hab : b < a
    all_goals
      have hse : st = (if b < a then -1 else 1) := by rw [← hst]; rfl
      first
        | rw [if_pos hab] at hse
        | rw [if_neg hab] at hse
      subst hse
      go_enter Tryd.func22, Tryd.ntmps22
      go_wp2
      go_loopw [8, 9] (fun ov nv wr => ∃ i : Nat, nv = .int .i64 (nthD a b i) ∧ i ≤ (b - a).natAbs ∧ i ≤ 201 ∧ wr.ownsRow w.heap.size 9 1 ov i (strs ((rowsD a b l).take i)) ∧ Below w.heap.size w wr) (fun _ nv _ => stepsLeft a b (intOf nv))
      case atStart => exact ⟨0, by unfold nthD; simp, Nat.zero_le _, Nat.zero_le _, World.ownsRow_nil _ _ _ _, Below.refl _ _⟩
      case round =>
        obtain ⟨i, rfl, hin, hi2, hown, hnx⟩ := hrel
        obtain ⟨va, vc, rfl⟩ := ownsRow_form hown
        by_cases h200 : i ≤ 200
        · have hI2 : (i : Int) ≤ 200 := by omega
          obtain ⟨n, hn⟩ : ∃ n, nthD a b i = n := ⟨_, rfl⟩
          have hnb := nth_in (lo := -1000000) (hi := 1000000) hin ha hb
          have hnl : l = true → 0 ≤ n ∧ n < 256 := fun e => by
            obtain ⟨x, y⟩ := hl e
            have := nth_in (lo := 0) (hi := 255) hin (by omega) (by omega)
            rw [hn] at this
            omega
          have htk := rows_take (a := a) (b := b) (l := l) (i := i) (by omega)
          have hst2 := nth_step a b i
          have hla := nth_last hin
          rw [hn] at hnb htk hst2 hla
          rw [hst] at hst2
          have hless : i < (b - a).natAbs → stepsLeft a b (nthD a b (i + 1)) < stepsLeft a b n := fun h => steps_less h hn rfl
          have HN := hide (And.intro hn (And.intro htk (And.intro hst2 (And.intro hla hless))))
          rw [hn]
          clear hn htk hst2 hla hless
          cases l
          · have hdc := dec29_any n hnb wr
            go_wp2_with fail
            refine hdc.mono ?_
            rintro e w1 ⟨rfl, hb1⟩
            have hown1 := ownsRow_block hown (fun g _ hlt => hb1.block g hlt)
            have hnx1 := hnx.trans (hb1.mono hnx.size)
            clear hdc hown hnx
            have hs1 := hnx1.size
            by_cases hz : n = b
            · have hzb : (n == b) = true := by simp [hz]
              have HIE := hide (HN.out.2.2.2.1.1 hz)
              clear hz
              go_wp2_with (at_builtin; refine wpList_append_own _ rfl _ _ 22 rfl w.heap.size 9 i0 (.string ⟨#[]⟩) 1 16 und22 hi hz0 hz1 hz2 rfl (by decide) _ _ _ rfl (hown1.alloc _) ⟨w1.heap.size, 0, none⟩ 1 1 [.string (bs (decB n))] rfl rfl (cell_one_new _ _ _) (by simp [Value.oneCell']) (by unfold maxLen; omega) (by omega) (by simp; omega) ?_; intro v' w2 hown' hgrow _)
              have HB := below_push hnx1 (Nat.le_refl _) hown1 hgrow
              refine hR _ _ ?_ HB
              have hie := HIE.out
              rw [rows_all (by omega) (by omega : (b - a).natAbs ≤ i), HN.out.2.1]
              exact row_push hown' (by rw [List.length_take, rows_count]; omega)
            · have hzb : (n == b) = false := by simp [hz]
              have HIE : Hid (i ≠ (b - a).natAbs) := fun e => hz (HN.out.2.2.2.1.2 e)
              clear hz
              go_wp2_with (at_builtin; refine wpList_append_own _ rfl _ _ 22 rfl w.heap.size 9 i0 (.string ⟨#[]⟩) 1 16 und22 hi hz0 hz1 hz2 rfl (by decide) _ _ _ rfl (hown1.alloc _) ⟨w1.heap.size, 0, none⟩ 1 1 [.string (bs (decB n))] rfl rfl (cell_one_new _ _ _) (by simp [Value.oneCell']) (by unfold maxLen; omega) (by omega) (by simp; omega) ?_; intro v' w2 hown' hgrow _)
              have HB := below_push hnx1 (Nat.le_refl _) hown1 hgrow
              go_roundw
              case rel =>
                have hie := HIE.out
                have hpu := row_push hown' (by rw [List.length_take, rows_count]; omega)
                rw [show [decB n] = [rowTextD false n] from rfl, ← HN.out.2.1, List.length_take, rows_count, Nat.min_eq_left (by omega)] at hpu
                exact ⟨i + 1, by rw [← HN.out.2.2.1], by omega, by omega, hpu, HB⟩
              case measure =>
                have hie := HIE.out
                have := HN.out.2.2.2.2 (by omega)
                rw [← HN.out.2.2.1] at this
                exact this
          · obtain ⟨n0, n255⟩ := hnl rfl
            obtain ⟨c, hc⟩ : ∃ c : UInt8, (c.toNat : Int) = n := ⟨UInt8.ofNat n.toNat, by rw [UInt8.toNat_ofNat']; omega⟩
            have HTX : Hid (rowTextD true n = [c]) := by
              show [UInt8.ofNat n.toNat] = [c]
              rw [← hc]
              simp
            have hs0 := hnx.size
            have hcv : (Go.convert 60 9 (.slice (some ⟨wr.heap.size, 0, none⟩) 1 1)).run Tryd.prog (wr.alloc (.cells #[.int .u8 n] 5)) = .ok (.string (bs [c])) (wr.alloc (.cells #[.int .u8 n] 5)) := by
              rw [← hc]
              refine run_convert_bytes_back (wr.alloc (.cells #[.int .u8 (c.toNat : Int)] 5)) 60 9 5 ⟨wr.heap.size, 0, none⟩ 1 [c] u60 u5' u9' (fun j hj => ?_)
              have : j = 0 := by simp at hj; exact hj
              subst this
              exact (Boxed.new wr 5 (.int .u8 (c.toNat : Int))).cell
            have hown1 := hown.alloc (.cells #[.int .u8 n] 5)
            have hnx1 := hnx.alloc (by omega : w.heap.size ≤ wr.heap.size) (.cells #[.int .u8 n] 5)
            have HC := hide hc
            clear hc hown hnx
            by_cases hz : n = b
            · have hzb : (n == b) = true := by simp [hz]
              have HIE := hide (HN.out.2.2.2.1.1 hz)
              clear hz
              go_wp2_with (at_builtin; refine wpList_append_own _ rfl _ _ 22 rfl w.heap.size 9 i0 (.string ⟨#[]⟩) 1 16 und22 hi hz0 hz1 hz2 rfl (by decide) _ _ _ rfl (hown1.alloc _) ⟨wr.heap.size + 1, 0, none⟩ 1 1 [.string (bs ([c]))] rfl rfl (cell_one_new' _ _ _ _ (by simp)) (by simp [Value.oneCell']) (by unfold maxLen; omega) (by omega) (by simp; omega) ?_; intro v' w2 hown' hgrow _)
              have HB := below_push hnx1 (Nat.le_refl _) hown1 hgrow
              refine hR _ _ ?_ HB
              have hie := HIE.out
              rw [rows_all (by omega) (by omega : (b - a).natAbs ≤ i), HN.out.2.1, HTX.out]
              exact row_push hown' (by rw [List.length_take, rows_count]; omega)
            · have hzb : (n == b) = false := by simp [hz]
              have HIE : Hid (i ≠ (b - a).natAbs) := fun e => hz (HN.out.2.2.2.1.2 e)
              clear hz
              go_wp2_with (at_builtin; refine wpList_append_own _ rfl _ _ 22 rfl w.heap.size 9 i0 (.string ⟨#[]⟩) 1 16 und22 hi hz0 hz1 hz2 rfl (by decide) _ _ _ rfl (hown1.alloc _) ⟨wr.heap.size + 1, 0, none⟩ 1 1 [.string (bs ([c]))] rfl rfl (cell_one_new' _ _ _ _ (by simp)) (by simp [Value.oneCell']) (by unfold maxLen; omega) (by omega) (by simp; omega) ?_; intro v' w2 hown' hgrow _)
              have HB := below_push hnx1 (Nat.le_refl _) hown1 hgrow
              go_roundw
              case rel =>
                have hie := HIE.out
                have hpu := row_push hown' (by rw [List.length_take, rows_count]; omega)
                rw [← HTX.out, ← HN.out.2.1, List.length_take, rows_count, Nat.min_eq_left (by omega)] at hpu
                exact ⟨i + 1, by rw [← HN.out.2.2.1], by omega, by omega, hpu, HB⟩
              case measure =>
                have hie := HIE.out
                have := HN.out.2.2.2.2 (by omega)
                rw [← HN.out.2.2.1] at this
                exact this
        · have hI2 : ¬ ((i : Int) ≤ 200) := by omega
          have hie : i = 201 := by omega
          subst hie
          go_wp2
          refine hR _ _ ?_ hnx
          rw [List.length_take, rows_count, Nat.min_eq_left (by omega)]
          exact hown
  exact main _ (fun v w' h1 h2 => ⟨v, rfl, h1, h2⟩)
end Go.Proofs.YtgpgbobmpdgfeaaDoor
