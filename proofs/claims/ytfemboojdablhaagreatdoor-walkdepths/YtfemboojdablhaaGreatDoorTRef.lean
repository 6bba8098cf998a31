/- The reference's own functions: cut, Parts, and the laws' 'texts'. -/
import Derived.Test.YtfemboojdablhaaGreatDoorTGPlain
import Derived.Test.YtfemboojdablhaaGreatDoorProg
import Derived.Maps.AppendAt
import Derived.Outline
import Derived.BigQuiet
import Derived.Deep.QuietTactic
namespace Go.Proofs.YtfemboojdablhaaGreatDoor.Tre
open Go.RowKit

theorem Tryz.info9 : (Tryz.prog.info? 9).map (fun i => (i.zero, i.size, i.bytes)) = some (some (.string ⟨#[]⟩), 1, 16) := by kernel_rfl

theorem row_push {B : Nat} {w1 : World} {v' : Value} {xs : List ByteArray} {x : ByteArray} (hown' : w1.ownsRow B 9 1 v' (xs.length + 1) (xs.map Value.string ++ [Value.string x])) :
    w1.ownsRow B 9 1 v' (xs ++ [x]).length ((xs ++ [x]).map Value.string) := by
  rw [List.length_append, List.map_append]; exact hown'
theorem below_push {B n : Nat} {w wr w1 : World} {o : Obj} {v : Value} {xs : List Value} (hB : B ≤ wr.heap.size) (hnx : Below B w wr) (hown : wr.ownsRow B 9 1 v n xs) (hg : (wr.alloc o).grownBy w1 v.ownBlock) : Below B w w1 :=
  (hnx.alloc hB o).grown hg (by simp; omega) (fun k e => (hown.lt k e).1)

set_option maxHeartbeats 1000000 in
theorem cut_any (c : UInt8) (s : ByteArray) (w : World) (hs : s.size ≤ 1073741824) :
    Calls Tryz.prog 18 #[.string s, .int .u8 (c.toNat : Int)] w fun e w' =>
      ∃ v, e = .returned v ∧ w'.ownsRow w.heap.size 9 1 v (cutS c s).length ((cutS c s).map Value.string) ∧ Below w.heap.size w w' := by
  obtain ⟨i0, hi, hz0, hz1, hz2⟩ := info_parts Tryz.info9
  go_enter Tryz.func18, Tryz.ntmps18
  go_wp2
  go_loopw [5, 6, 7] (fun v fv iv wr => ∃ (k f : Nat) (done : List ByteArray), CutSt c s k f done ∧ iv = .int .i64 k ∧ fv = .int .i64 f ∧ wr.ownsRow w.heap.size 9 1 v done.length (done.map Value.string) ∧ Below w.heap.size w wr)
    (fun _ _ iv _ => s.size + 1 - (intOf iv).toNat)
  case atStart => exact ⟨0, 0, [], cutSt_zero c s, rfl, rfl, World.ownsRow_nil _ _ _ _, Below.refl _ _⟩
  case round =>
    obtain ⟨k, f, done, hst, rfl, rfl, hown, hnx⟩ := hrel
    have hle := cutSt_le hst
    by_cases hk : k ≤ s.size
    · have hroom := cutSt_room hst hk
      have hf := cutSt_from hst hk
      by_cases hke : k = s.size
      · subst hke
        have hb : ((s.size : Int) == (s.size : Int)) = true := by simp
        have HST : Hid (CutSt c s (s.size + 1) (s.size + 1) (done ++ [s.extract f s.size])) := cutSt_end hst
        clear hst
        go_wp2_with (at_builtin; refine wpList_append_own _ rfl _ _ 25 rfl w.heap.size 9 i0 (.string ⟨#[]⟩) 1 16 Tryz.underlying25 hi hz0 hz1 hz2 rfl (by decide) _ _ _ rfl (hown.alloc _) ⟨wr.heap.size, 0, none⟩ 1 1 [.string (s.extract f s.size)] rfl rfl (cell_one_new _ _ _) (by simp [Value.oneCell']) (by unfold maxLen; omega) (by omega) (by have := hnx.size; simp; omega) ?_; intro v' w1 hown' hgrow _)
        have HB := below_push hnx.size hnx hown hgrow
        go_roundw
        case rel => exact ⟨s.size + 1, s.size + 1, _, HST.out, by go_num, by go_num, row_push hown', HB⟩
        case measure => simp [intOf]
      · have hlt : k < s.size := by omega
        have hb : ((k : Int) == (s.size : Int)) = false := by rw [beq_eq_false_iff_ne]; omega
        by_cases hc : s[k] = c
        · have hbc : ((s[k].toNat : Int) == (c.toNat : Int)) = true := by rw [hc]; simp
          have HST : Hid (CutSt c s (k + 1) (k + 1) (done ++ [s.extract f k])) := cutSt_hit hst hlt hc
          clear hst hc hke
          go_wp2_with (at_builtin; refine wpList_append_own _ rfl _ _ 25 rfl w.heap.size 9 i0 (.string ⟨#[]⟩) 1 16 Tryz.underlying25 hi hz0 hz1 hz2 rfl (by decide) _ _ _ rfl (hown.alloc _) ⟨wr.heap.size, 0, none⟩ 1 1 [.string (s.extract f k)] rfl rfl (cell_one_new _ _ _) (by simp [Value.oneCell']) (by unfold maxLen; omega) (by omega) (by have := hnx.size; simp; omega) ?_; intro v' w1 hown' hgrow _)
          have HB := below_push hnx.size hnx hown hgrow
          go_roundw
          case rel => exact ⟨k + 1, k + 1, _, HST.out, by go_num, by go_num, row_push hown', HB⟩
          case measure => simp [intOf]; omega
        · have hbc : ((s[k].toNat : Int) == (c.toNat : Int)) = false := by
            rw [beq_eq_false_iff_ne]; intro e; exact hc (UInt8.toNat_inj.1 (by omega))
          have HST : Hid (CutSt c s (k + 1) f done) := cutSt_miss hst hlt hc
          clear hst hc
          go_wp2
          go_roundw
          case rel => exact ⟨k + 1, f, done, HST.out, by go_num, rfl, hown, hnx⟩
          case measure => simp [intOf]; omega
    · have hd := cutSt_out hst hk
      subst hd
      go_wp2
      go_ret
      exact ⟨_, rfl, hown, hnx⟩

/-- A slice value that holds the texts xs, in a block below B (or is nil, and there is none). -/
def StrRow (B : Nat) (W : World) (v : Value) (xs : List ByteArray) : Prop :=
  (v = .slice none 0 0 ∧ xs = []) ∨ ∃ g cap, v = .slice (some ⟨g, 0, none⟩) xs.length cap ∧ g < B ∧ xs.length ≤ cap ∧ ∀ (j : Nat) (x : ByteArray), xs[j]? = some x → W.cell? ⟨g, j, none⟩ = some (.string x)
theorem StrRow.below {B : Nat} {W W' : World} {v : Value} {xs : List ByteArray} (h : StrRow B W v xs) (hb : Below B W W') : StrRow B W' v xs := by
  rcases h with h | ⟨g, cap, rfl, hg, hc, hx⟩
  · exact .inl h
  · exact .inr ⟨g, cap, rfl, hg, hc, fun j x hj => (hb.cell (p := ⟨g, j, none⟩) hg).trans (hx j x hj)⟩
theorem StrRow.of_owns {B : Nat} {W : World} {v : Value} {xs : List ByteArray} (h : W.ownsRow B 9 1 v xs.length (xs.map Value.string)) : StrRow W.heap.size W v xs := by
  rcases h.2 with ⟨rfl, h2⟩ | ⟨g, cap, cur, rfl, hb, hg, hn, _, hs, ht⟩
  · exact .inl ⟨rfl, List.eq_nil_of_length_eq_zero h2⟩
  · refine .inr ⟨g, cap, rfl, (Array.getElem?_eq_some_iff.1 hg).1, hn, fun j x hj => ?_⟩
    have hj' : j < xs.length := (List.getElem?_eq_some_iff.1 hj).1
    have e1 : (cur.toList.take (xs.length * 1))[j]? = some (.string x) := by rw [ht, List.getElem?_map, hj]; rfl
    rw [List.getElem?_take_of_lt (by omega)] at e1
    simp only [World.cell?, hg]
    simpa using e1
theorem owns_base {B B' n : Nat} {W : World} {v : Value} {xs : List Value} (hB : B ≤ B') (h : W.ownsRow B' 9 1 v n xs) : W.ownsRow B 9 1 v n xs := by
  refine ⟨h.1, ?_⟩
  rcases h.2 with h2 | ⟨g, cap, cur, e, hb, r⟩
  · exact .inl h2
  · exact .inr ⟨g, cap, cur, e, by omega, r⟩

theorem StrRow.nil {B : Nat} {W : World} {v : Value} (h : StrRow B W v []) : ∃ a cap, v = .slice a 0 cap := by
  rcases h with ⟨rfl, _⟩ | ⟨g, cap, rfl, _⟩
  · exact ⟨_, _, rfl⟩
  · exact ⟨_, _, rfl⟩
theorem StrRow.more {B : Nat} {W : World} {v : Value} {xs : List ByteArray} (h : StrRow B W v xs) (hne : xs ≠ []) : ∃ g cap, v = .slice (some ⟨g, 0, none⟩) xs.length cap ∧ g < B ∧ xs.length ≤ cap ∧ ∀ (j : Nat) (x : ByteArray), xs[j]? = some x → W.cell? ⟨g, j, none⟩ = some (.string x) := by
  rcases h with ⟨_, rfl⟩ | h
  · exact absurd rfl hne
  · exact h

theorem owns_below {W W' : World} {B n : Nat} {v : Value} {xs : List Value} (h : W.ownsRow B 9 1 v n xs) (hb : Below W.heap.size W W') : W'.ownsRow B 9 1 v n xs := by
  refine ⟨h.1, ?_⟩
  rcases h.2 with h2 | ⟨g, cap, cur, e, hbb, hg, r⟩
  · exact .inl h2
  · exact .inr ⟨g, cap, cur, e, hbb, (hb.block g (Array.getElem?_eq_some_iff.1 hg).1).trans hg, r⟩

theorem addr_add (g j : Nat) : (⟨g, 0, none⟩ : Addr).add j = ⟨g, j, none⟩ := by
  unfold Addr.add
  by_cases h : j = 0
  · subst h; simp
  · simp [h]

theorem hide {p : Prop} (h : p) : Hid p := h
theorem unhide {p : Prop} (h : Hid p) : p := h.out
end Go.Proofs.YtfemboojdablhaaGreatDoor.Tre
