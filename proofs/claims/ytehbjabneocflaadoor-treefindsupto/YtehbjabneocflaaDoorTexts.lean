/- The reference's Parts; the laws' 'texts'. -/
import Derived.Test.YtehbjabneocflaaDoorRef
namespace Go.Proofs.YtehbjabneocflaaDoor
open Go.RowKit

theorem keep_take_hit {cs : List ByteArray} {k : Nat} {x : ByteArray} (hx : cs[k]? = some x) (hk : x.toList.isEmpty = false) : (cs.take (k + 1)).filter keep = (cs.take k).filter keep ++ [x] := by
  have hlt := (List.getElem?_eq_some_iff.1 hx).1
  have he := (List.getElem?_eq_some_iff.1 hx).2
  rw [List.take_succ_eq_append_getElem hlt, he, List.filter_append]
  have : keep x = true := by unfold keep; rw [hk]; rfl
  simp [this]
theorem keep_take_miss {cs : List ByteArray} {k : Nat} {x : ByteArray} (hx : cs[k]? = some x) (hk : x.toList.isEmpty = true) : (cs.take (k + 1)).filter keep = (cs.take k).filter keep := by
  have hlt := (List.getElem?_eq_some_iff.1 hx).1
  have he := (List.getElem?_eq_some_iff.1 hx).2
  rw [List.take_succ_eq_append_getElem hlt, he, List.filter_append]
  have : keep x = false := by unfold keep; rw [hk]; rfl
  simp [this]

theorem owns_base {B B' n : Nat} {W : World} {v : Value} {xs : List Value} (hB : B ≤ B') (h : W.ownsRow B' 9 1 v n xs) : W.ownsRow B 9 1 v n xs := by
  refine ⟨h.1, ?_⟩
  rcases h.2 with h2 | ⟨g, cap, cur, e, hb, r⟩
  · exact .inl h2
  · exact .inr ⟨g, cap, cur, e, by omega, r⟩

set_option maxHeartbeats 1000000 in
theorem refparts_any (s : ByteArray) (w : World) (hs : s.size ≤ 1073741824) :
    Calls Tryd.prog 10 #[.string s] w fun e w' =>
      ∃ v, e = .returned v ∧ w'.ownsRow w.heap.size 9 1 v (partsS s).length ((partsS s).map Value.string) ∧ Below w.heap.size w w' := by
  obtain ⟨i0, hi, hz0, hz1, hz2⟩ := info_parts Tryd.info9
  have hlen := cutS_length 47 s
  go_enter Tryd.func10, Tryd.ntmps10
  go_wp2_with fail
  refine (cut_any 47 s _ hs).mono ?_
  rintro e w0 ⟨v0, rfl, hown0, hb0⟩
  have hrow0 := StrRow.of_owns hown0
  have hsz := hb0.size
  obtain ⟨cs, hcs⟩ : ∃ cs, cs = cutS 47 s := ⟨_, rfl⟩
  have HP : Hid (partsS s = cs.filter keep) := by rw [hcs]; rfl
  have hne : cs ≠ [] := by rw [hcs]; unfold cutS; simp [split_ne]
  rw [← hcs] at hlen hrow0
  clear hown0 hcs
  rcases hrow0 with ⟨_, rfl⟩ | ⟨g, cap, rfl, hg, hcap, hx⟩
  · exact absurd rfl hne
  · go_wp2
    go_loopw [4, 5] (fun v iv wr => ∃ k : Nat, k ≤ cs.length ∧ iv = .int .i64 k ∧ wr.ownsRow w0.heap.size 9 1 v ((cs.take k).filter keep).length (((cs.take k).filter keep).map Value.string) ∧ Below w0.heap.size w0 wr)
      (fun _ iv _ => cs.length - (intOf iv).toNat)
    case atStart => exact ⟨0, Nat.zero_le _, rfl, World.ownsRow_nil _ _ _ _, Below.refl _ _⟩
    case round =>
      obtain ⟨k, hk, rfl, hown, hnx⟩ := hrel
      have hfl : ((cs.take k).filter keep).length ≤ k := Nat.le_trans (List.length_filter_le _ _) (List.length_take_le _ _)
      by_cases hlt : k < cs.length
      · obtain ⟨x, hxk⟩ : ∃ x, cs[k]? = some x := ⟨_, List.getElem?_eq_getElem hlt⟩
        have hcell : wr.cell? ⟨g, k, none⟩ = some (.string x) := (hnx.cell (p := ⟨g, k, none⟩) hg).trans (hx k x hxk)
        cases hE : x.toList.isEmpty
        · have HH : Hid ((cs.take (k + 1)).filter keep = (cs.take k).filter keep ++ [x]) := keep_take_hit hxk hE
          clear hxk
          go_wp2_with (at_builtin; refine wpList_append_own _ rfl _ _ 22 rfl w0.heap.size 9 i0 (.string ⟨#[]⟩) 1 16 Tryd.underlying22 hi hz0 hz1 hz2 rfl (by decide) _ _ _ rfl (hown.alloc _) ⟨wr.heap.size, 0, none⟩ 1 1 [.string x] rfl rfl (cell_one_new _ _ _) (by simp [Value.oneCell']) (by unfold maxLen; omega) (by omega) (by have := hnx.size; simp; omega) ?_; intro v' w1 hown' hgrow _)
          have HB := below_push hnx.size hnx hown hgrow
          go_roundw
          case rel => exact ⟨k + 1, by omega, by go_num, by rw [HH.out]; exact row_push hown', HB⟩
          case measure => simp [intOf]; omega
        · have HH : Hid ((cs.take (k + 1)).filter keep = (cs.take k).filter keep) := keep_take_miss hxk hE
          clear hxk
          go_wp2
          go_roundw
          case rel => exact ⟨k + 1, by omega, by go_num, by rw [HH.out]; exact hown, hnx⟩
          case measure => simp [intOf]; omega
      · obtain rfl : k = cs.length := by omega
        go_wp2
        go_ret
        refine ⟨_, rfl, ?_, hb0.trans (hnx.mono hsz)⟩
        rw [HP.out]
        rw [List.take_length] at hown
        exact owns_base hsz hown

/-! ### 'texts' of two rows that hold the same texts: true. -/
theorem StrRow.nil {B : Nat} {W : World} {v : Value} (h : StrRow B W v []) : ∃ a cap, v = .slice a 0 cap := by
  rcases h with ⟨rfl, _⟩ | ⟨g, cap, rfl, _⟩
  · exact ⟨_, _, rfl⟩
  · exact ⟨_, _, rfl⟩
theorem StrRow.more {B : Nat} {W : World} {v : Value} {xs : List ByteArray} (h : StrRow B W v xs) (hne : xs ≠ []) : ∃ g cap, v = .slice (some ⟨g, 0, none⟩) xs.length cap ∧ g < B ∧ xs.length ≤ cap ∧ ∀ (j : Nat) (x : ByteArray), xs[j]? = some x → W.cell? ⟨g, j, none⟩ = some (.string x) := by
  rcases h with ⟨_, rfl⟩ | h
  · exact absurd rfl hne
  · exact h

set_option maxHeartbeats 1000000 in
theorem texts_nil (a b : Option Addr) (ca cb : Nat) (w : World) :
    Calls Tryd.prog 9 #[.slice a 0 ca, .slice b 0 cb] w fun e w' => e = .returned (.bool true) ∧ ∃ n, w' = w.drewN n := by
  go_enter Tryd.func9, Tryd.ntmps9
  go_wp2
  refine wp_loop_rounds 1 ?_
  rw [rounds_succ]
  go_wp2
  go_ret
  exact ⟨rfl, 0, rfl⟩

set_option maxHeartbeats 1000000 in
theorem texts_more (g ca g2 cb : Nat) (xs : List ByteArray) (w : World) (hl : xs.length ≤ 1073741825) (hx : ∀ (j : Nat) (x : ByteArray), xs[j]? = some x → w.cell? ⟨g, j, none⟩ = some (.string x)) (hx2 : ∀ (j : Nat) (x : ByteArray), xs[j]? = some x → w.cell? ⟨g2, j, none⟩ = some (.string x)) :
    Calls Tryd.prog 9 #[.slice (some ⟨g, 0, none⟩) xs.length ca, .slice (some ⟨g2, 0, none⟩) xs.length cb] w fun e w' => e = .returned (.bool true) ∧ ∃ n, w' = w.drewN n := by
  have hne : ((xs.length : Int) != (xs.length : Int)) = false := by simp
  go_enter Tryd.func9, Tryd.ntmps9
  go_wp2
  go_loopw [5] (fun iv wr => ∃ k n : Nat, k ≤ xs.length ∧ iv = .int .i64 k ∧ wr = w.drewN n) (fun iv _ => xs.length - (intOf iv).toNat)
  case atStart => exact ⟨0, 0, Nat.zero_le _, rfl, rfl⟩
  case round =>
    obtain ⟨k, n, hk, rfl, rfl⟩ := hrel
    by_cases hlt : k < xs.length
    · obtain ⟨x, hxk⟩ : ∃ x, xs[k]? = some x := ⟨_, List.getElem?_eq_getElem hlt⟩
      have hc1 := hx k x hxk
      have hc2 := hx2 k x hxk
      clear hx hx2 hxk
      go_wp2
      go_quiet (fail)
      go_wp2
      go_roundw
      case rel => exact ⟨k + 1, n + nq, by omega, by go_num, rfl⟩
      case measure => simp [intOf]; omega
    · obtain rfl : k = xs.length := by omega
      go_wp2
      go_ret
      exact ⟨rfl, n, rfl⟩

theorem texts_same {B B2 : Nat} {va vb : Value} {xs : List ByteArray} {w : World} (hl : xs.length ≤ 1073741825) (ha : StrRow B w va xs) (hb : StrRow B2 w vb xs) :
    Calls Tryd.prog 9 #[va, vb] w fun e w' => e = .returned (.bool true) ∧ ∃ n, w' = w.drewN n := by
  by_cases hne : xs = []
  · subst hne
    obtain ⟨a, ca, rfl⟩ := ha.nil
    obtain ⟨b, cb, rfl⟩ := hb.nil
    exact texts_nil a b ca cb w
  · obtain ⟨g, ca, rfl, _, _, hx⟩ := ha.more hne
    obtain ⟨g2, cb, rfl, _, _, hx2⟩ := hb.more hne
    exact texts_more g ca g2 cb xs w hl hx hx2
end Go.Proofs.YtehbjabneocflaaDoor
