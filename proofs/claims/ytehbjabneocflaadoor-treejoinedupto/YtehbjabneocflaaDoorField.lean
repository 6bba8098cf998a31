/- The reference's Number, isName and field, as far as going through a tree asks. -/
import Derived.Test.YtehbjabneocflaaDoorPut
import Derived.Laws.IdiomStrings
import Derived.Laws.BytesArg
namespace Go.Proofs.YtehbjabneocflaaDoor
open Go.RowKit

set_option maxHeartbeats 1000000 in
theorem num_any (s : ByteArray) (w : World) (hs : s.size ≤ 1073741824) :
    Calls Tryd.prog 54 #[.string s, .int .i64 9] w fun e w' => (∃ n, e = .returned (.int .i64 n)) ∧ w' = w := by
  by_cases h1 : s.size < 1
  · have h0 : (s.size : Int) < 1 := by omega
    go_enter Tryd.func54, Tryd.ntmps54
    go_wp2
    go_ret
    exact ⟨⟨_, rfl⟩, rfl⟩
  · have h0 : ¬ (s.size : Int) < 1 := by omega
    by_cases h9 : 9 < s.size
    · have h9' : (9 : Int) < (s.size : Int) := by omega
      go_enter Tryd.func54, Tryd.ntmps54
      go_wp2
      go_ret
      exact ⟨⟨_, rfl⟩, rfl⟩
    · have h9' : ¬ (9 : Int) < (s.size : Int) := by omega
      go_enter Tryd.func54, Tryd.ntmps54
      go_wp2
      go_loop [5, 6] (fun n r => ∃ (k : Nat) (x : Int), k ≤ s.size ∧ r = .int .i64 k ∧ n = .int .i64 x) (fun _ r => s.size - (intOf r).toNat)
      case atStart => exact ⟨0, 0, Nat.zero_le _, rfl, rfl⟩
      case round =>
        obtain ⟨k, x, hk, rfl, rfl⟩ := hrel
        by_cases hlt : k < s.size
        · by_cases hlo : (s[k].toNat : Int) < 48
          · go_wp2
            go_ret
            exact ⟨⟨_, rfl⟩, rfl⟩
          · by_cases hhi : 57 < (s[k].toNat : Int)
            · have hdn : decide ((s[k].toNat : Int) ≤ 57) = false := by rw [decide_eq_false_iff_not]; omega
              go_wp2
              go_ret
              exact ⟨⟨_, rfl⟩, rfl⟩
            · have hhi' : (s[k].toNat : Int) ≤ 57 := by omega
              go_wp2
              go_round
              case rel => exact ⟨k + 1, _, by omega, by go_num, rfl⟩
              case measure => simp [intOf]; omega
        · obtain rfl : k = s.size := by omega
          go_wp2
          go_ret
          exact ⟨⟨_, rfl⟩, rfl⟩

/-- It answers a bool. -/
def AnyBool (e : Ending) : Prop := ∃ b, e = .returned (.bool b)

set_option maxHeartbeats 1000000 in
theorem isName_any (s : ByteArray) (w : World) (hs : s.size ≤ 1073741824) :
    Calls Tryd.prog 38 #[.string s] w fun e w' => AnyBool e ∧ w' = w := by
  cases e1 : s.toList.isEmpty
  · by_cases e2 : (60 : Int) < (s.size : Int)
    · go_enter Tryd.func38, Tryd.ntmps38
      go_wp2
      go_ret
      exact ⟨⟨_, rfl⟩, rfl⟩
    · cases e3 : (s.toList == [46])
      · cases e4 : (s.toList == [46, 46])
        · go_enter Tryd.func38, Tryd.ntmps38
          go_wp2
          go_loop [3] (fun r => ∃ (k : Nat), k ≤ s.size ∧ r = .int .i64 k) (fun r => s.size - (intOf r).toNat)
          case atStart => exact ⟨0, Nat.zero_le _, rfl⟩
          case round =>
            obtain ⟨k, hk, rfl⟩ := hrel
            by_cases hlt : k < s.size
            · cases c0 : ((s[k].toNat : Int) == 0)
              · cases c9 : ((s[k].toNat : Int) == 9)
                · cases c10 : ((s[k].toNat : Int) == 10)
                  · go_wp2
                    go_round
                    case rel => exact ⟨k + 1, by omega, by go_num⟩
                    case measure => simp [intOf]; omega
                  · go_wp2
                    go_ret
                    exact ⟨⟨_, rfl⟩, rfl⟩
                · go_wp2
                  go_ret
                  exact ⟨⟨_, rfl⟩, rfl⟩
              · go_wp2
                go_ret
                exact ⟨⟨_, rfl⟩, rfl⟩
            · obtain rfl : k = s.size := by omega
              go_wp2
              go_ret
              exact ⟨⟨_, rfl⟩, rfl⟩
        · go_enter Tryd.func38, Tryd.ntmps38
          go_wp2
          go_ret
          exact ⟨⟨_, rfl⟩, rfl⟩
      · go_enter Tryd.func38, Tryd.ntmps38
        go_wp2
        go_ret
        exact ⟨⟨_, rfl⟩, rfl⟩
  · go_enter Tryd.func38, Tryd.ntmps38
    go_wp2
    go_ret
    exact ⟨⟨_, rfl⟩, rfl⟩

def u8s (xs : List UInt8) : List Value := xs.map fun (b : UInt8) => Value.int .u8 (b.toNat : Int)
theorem u8s_push {B : Nat} {w1 : World} {v' : Value} {xs : List UInt8} {x : UInt8} (h : w1.ownsRow B 5 1 v' (xs.length + 1) (u8s xs ++ [Value.int .u8 (x.toNat : Int)])) :
    w1.ownsRow B 5 1 v' (xs ++ [x]).length (u8s (xs ++ [x])) := by
  unfold u8s at h ⊢
  rw [List.length_append, List.map_append]; exact h
theorem below_own {B t n : Nat} {w wr w1 : World} {o : Obj} {v : Value} {xs : List Value} (hB : B ≤ wr.heap.size) (hnx : Below B w wr) (hown : wr.ownsRow B t 1 v n xs) (hg : (wr.alloc o).grownBy w1 v.ownBlock) : Below B w w1 :=
  (hnx.alloc hB o).grown hg (by simp; omega) (fun k e => (hown.lt k e).1)
/-- string(out): some text, no longer than out. -/
theorem back_any {B : Nat} {W : World} {v : Value} {xs : List UInt8} (h : W.ownsRow B 5 1 v xs.length (u8s xs)) : ∃ r : ByteArray, r.size = xs.length ∧ (convert 100 9 v).run Tryd.prog W = .ok (.string r) W := by
  rcases h.2 with ⟨rfl, e⟩ | ⟨g, cap, cur, rfl, hb, hg, hn, _, hs, ht⟩
  · exact ⟨ByteArray.empty, by rw [e]; rfl, run_convert_bytes_nil W 100 5 Tryd.underlying100 Tryd.underlying5 0 0 9 Tryd.underlying9⟩
  · refine ⟨⟨xs.toArray⟩, by simp [ByteArray.size], run_convert_bytes_back W 100 9 5 ⟨g, 0, none⟩ cap xs Tryd.underlying100 Tryd.underlying5 Tryd.underlying9 fun j hj => ?_⟩
    have e1 : (cur.toList.take (xs.length * 1))[j]? = some (.int .u8 (xs[j].toNat : Int)) := by rw [ht]; unfold u8s; rw [List.getElem?_map, List.getElem?_eq_getElem hj]; rfl
    rw [List.getElem?_take_of_lt (by omega)] at e1
    rw [addr_add]
    simp only [World.cell?, hg]
    simpa using e1
def FieldPost (n B : Nat) (w : World) (e : Ending) (w' : World) : Prop := ∃ (r : ByteArray) (b : Bool), e = .returned (.tuple #[.string r, .bool b]) ∧ r.size ≤ n ∧ Below B w w'
theorem field_no {n B : Nat} {w w' : World} (h : Below B w w') : FieldPost n B w (.returned (.tuple #[.string ⟨#[]⟩, .bool false])) w' := ⟨_, _, rfl, Nat.zero_le _, h⟩

set_option maxRecDepth 100000 in
set_option maxHeartbeats 2000000 in
theorem field_any (s : ByteArray) (w : World) (hs : s.size ≤ 1073741824) :
    Calls Tryd.prog 55 #[.string s] w (FieldPost s.size w.heap.size w) := by
  obtain ⟨i0, hi, hz0, hz1, hz2⟩ := info_parts Tryd.info5
  go_enter Tryd.func55, Tryd.ntmps55
  go_wp2
  go_loopw [4, 5] (fun v r wr => ∃ (k : Nat) (xs : List UInt8), k ≤ s.size ∧ xs.length ≤ k ∧ r = .int .i64 k ∧ wr.ownsRow w.heap.size 5 1 v xs.length (u8s xs) ∧ Below w.heap.size w wr) (fun _ r _ => s.size - (intOf r).toNat)
  case atStart => exact ⟨0, [], Nat.zero_le _, Nat.le_refl _, rfl, World.ownsRow_nil _ _ _ _, Below.refl _ _⟩
  case round =>
    obtain ⟨k, xs, hk, hxk, rfl, hown, hnx⟩ := hrel
    by_cases hlt : k < s.size
    · cases c0 : ((s[k].toNat : Int) == 0)
      · cases c9 : ((s[k].toNat : Int) == 9)
        · cases c10 : ((s[k].toNat : Int) == 10)
          · cases c92 : ((s[k].toNat : Int) == 92)
            · go_wp2_with (at_builtin; refine wpList_append_own _ rfl _ _ 100 rfl w.heap.size 5 i0 (.int .u8 0) 1 1 Tryd.underlying100 hi hz0 hz1 hz2 rfl (by decide) _ _ _ rfl (hown.alloc _) ⟨wr.heap.size, 0, none⟩ 1 1 [.int .u8 (s[k].toNat : Int)] rfl rfl (cell_one_new _ _ _) (by simp [Value.oneCell']) (by unfold maxLen; omega) (by omega) (by have := hnx.size; simp; omega) ?_; intro v' w1 hown' hgrow _)
              have HB := below_own hnx.size hnx hown hgrow
              go_roundw
              case rel => exact ⟨k + 1, _, by omega, by simp; omega, by go_num, u8s_push hown', HB⟩
              case measure => simp [intOf]; omega
            · by_cases he : k + 1 = s.size
              · have hee : ((k : Int) + 1 == (s.size : Int)) = true := by rw [beq_iff_eq]; omega
                go_wp2
                go_ret2
                exact field_no hnx
              · have hee : ((k : Int) + 1 == (s.size : Int)) = false := by rw [beq_eq_false_iff_ne]; omega
                have hlt2 : k + 1 < s.size := by omega
                cases d92 : ((s[k + 1].toNat : Int) == 92)
                · cases d116 : ((s[k + 1].toNat : Int) == 116)
                  · cases d110 : ((s[k + 1].toNat : Int) == 110)
                    · cases d48 : ((s[k + 1].toNat : Int) == 48)
                      · go_wp2
                        go_ret2
                        exact field_no hnx
                      · go_wp2_with (at_builtin; refine wpList_append_own _ rfl _ _ 100 rfl w.heap.size 5 i0 (.int .u8 0) 1 1 Tryd.underlying100 hi hz0 hz1 hz2 rfl (by decide) _ _ _ rfl (hown.alloc _) ⟨wr.heap.size, 0, none⟩ 1 1 [.int .u8 0] rfl rfl (cell_one_new _ _ _) (by simp [Value.oneCell']) (by unfold maxLen; omega) (by omega) (by have := hnx.size; simp; omega) ?_; intro v' w1 hown' hgrow _)
                        have HB := below_own hnx.size hnx hown hgrow
                        go_roundw
                        case rel => exact ⟨k + 2, _, by omega, by simp; omega, by go_num, u8s_push (x := 0) hown', HB⟩
                        case measure => simp [intOf]; omega
                    · go_wp2_with (at_builtin; refine wpList_append_own _ rfl _ _ 100 rfl w.heap.size 5 i0 (.int .u8 0) 1 1 Tryd.underlying100 hi hz0 hz1 hz2 rfl (by decide) _ _ _ rfl (hown.alloc _) ⟨wr.heap.size, 0, none⟩ 1 1 [.int .u8 10] rfl rfl (cell_one_new _ _ _) (by simp [Value.oneCell']) (by unfold maxLen; omega) (by omega) (by have := hnx.size; simp; omega) ?_; intro v' w1 hown' hgrow _)
                      have HB := below_own hnx.size hnx hown hgrow
                      go_roundw
                      case rel => exact ⟨k + 2, _, by omega, by simp; omega, by go_num, u8s_push (x := 10) hown', HB⟩
                      case measure => simp [intOf]; omega
                  · go_wp2_with (at_builtin; refine wpList_append_own _ rfl _ _ 100 rfl w.heap.size 5 i0 (.int .u8 0) 1 1 Tryd.underlying100 hi hz0 hz1 hz2 rfl (by decide) _ _ _ rfl (hown.alloc _) ⟨wr.heap.size, 0, none⟩ 1 1 [.int .u8 9] rfl rfl (cell_one_new _ _ _) (by simp [Value.oneCell']) (by unfold maxLen; omega) (by omega) (by have := hnx.size; simp; omega) ?_; intro v' w1 hown' hgrow _)
                    have HB := below_own hnx.size hnx hown hgrow
                    go_roundw
                    case rel => exact ⟨k + 2, _, by omega, by simp; omega, by go_num, u8s_push (x := 9) hown', HB⟩
                    case measure => simp [intOf]; omega
                · go_wp2_with (at_builtin; refine wpList_append_own _ rfl _ _ 100 rfl w.heap.size 5 i0 (.int .u8 0) 1 1 Tryd.underlying100 hi hz0 hz1 hz2 rfl (by decide) _ _ _ rfl (hown.alloc _) ⟨wr.heap.size, 0, none⟩ 1 1 [.int .u8 (s[k].toNat : Int)] rfl rfl (cell_one_new _ _ _) (by simp [Value.oneCell']) (by unfold maxLen; omega) (by omega) (by have := hnx.size; simp; omega) ?_; intro v' w1 hown' hgrow _)
                  have HB := below_own hnx.size hnx hown hgrow
                  go_roundw
                  case rel => exact ⟨k + 2, _, by omega, by simp; omega, by go_num, u8s_push (x := s[k]) hown', HB⟩
                  case measure => simp [intOf]; omega
          · go_wp2
            go_ret2
            exact field_no hnx
        · go_wp2
          go_ret2
          exact field_no hnx
      · go_wp2
        go_ret2
        exact field_no hnx
    · obtain rfl : k = s.size := by omega
      obtain ⟨r, hr, hrun⟩ := back_any hown
      go_wp2
      go_ret2
      exact ⟨r, true, rfl, by omega, hnx⟩
end Go.Proofs.YtehbjabneocflaaDoor
