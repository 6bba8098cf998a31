/- The document's reader: what it holds; fail, is. -/
import Derived.Test.YtdlljlmgoiobpaaGreatDoorER
namespace Go.Proofs.YtdlljlmgoiobpaaGreatDoor
open Go.RowKit Go.Maps
/-- The document's reader: the text, where it stands, the error and its place, how deep. -/
def EB (W : World) (b : Nat) (s : ByteArray) (i er at_ d : Int) : Prop := W.heap[b]? = some (.cells #[.string s, .int .i64 i, .int .i64 er, .int .i64 at_, .int .i64 d] 46 (0, 0))
theorem EB.cells {W : World} {b : Nat} {s : ByteArray} {i er at_ d : Int} (h : EB W b s i er at_ d) : W.cell? ⟨b, 0, none⟩ = some (.string s) ∧ W.cell? ⟨b, 1, none⟩ = some (.int .i64 i) ∧ W.cell? ⟨b, 2, none⟩ = some (.int .i64 er) ∧ W.cell? ⟨b, 3, none⟩ = some (.int .i64 at_) ∧ W.cell? ⟨b, 4, none⟩ = some (.int .i64 d) ∧ (∀ j, W.frozen? ⟨b, j, none⟩ = false) ∧ b < W.heap.size := by
  unfold EB at h
  refine ⟨?_, ?_, ?_, ?_, ?_, ?_, (Array.getElem?_eq_some_iff.1 h).1⟩ <;> simp [World.cell?, World.frozen?, h]
theorem EB.alloc {W : World} {b : Nat} {s : ByteArray} {i er at_ d : Int} (h : EB W b s i er at_ d) (o : Obj) : EB (W.alloc o) b s i er at_ d := (Below.heap_alloc _ _ _ (Array.getElem?_eq_some_iff.1 h).1).trans h
theorem EB.own {b g : Nat} {W W' : World} {s : ByteArray} {i er at_ d : Int} (h : EB W b s i er at_ d) (k : FrE g W W') (hg : g ≠ b) : EB W' b s i er at_ d := (k.block b (Array.getElem?_eq_some_iff.1 h).1 (fun e => hg e.symm)).trans h
theorem EB.all {b : Nat} {W W' : World} {s : ByteArray} {i er at_ d : Int} (h : EB W b s i er at_ d) (k : ∀ x, FrE x W W') : EB W' b s i er at_ d := ((k (b + 1)).block b (Array.getElem?_eq_some_iff.1 h).1 (by omega)).trans h
theorem EB.set1 {W : World} {b : Nat} {s : ByteArray} {i er at_ d : Int} (h : EB W b s i er at_ d) (j : Int) : EB (W.setCell ⟨b, 1, none⟩ (.int .i64 j)) b s j er at_ d := cells_set h _
theorem EB.set2 {W : World} {b : Nat} {s : ByteArray} {i er at_ d : Int} (h : EB W b s i er at_ d) (j : Int) : EB (W.setCell ⟨b, 2, none⟩ (.int .i64 j)) b s i j at_ d := cells_set h _
theorem EB.set3 {W : World} {b : Nat} {s : ByteArray} {i er at_ d : Int} (h : EB W b s i er at_ d) (j : Int) : EB (W.setCell ⟨b, 3, none⟩ (.int .i64 j)) b s i er j d := cells_set h _
theorem EB.set4 {W : World} {b : Nat} {s : ByteArray} {i er at_ d : Int} (h : EB W b s i er at_ d) (j : Int) : EB (W.setCell ⟨b, 4, none⟩ (.int .i64 j)) b s i er at_ j := cells_set h _
set_option maxRecDepth 100000 in
theorem fail_ok (b : Nat) (s : ByteArray) (i at_ d e p : Int) (w : World) (h : EB w b s i 0 at_ d) :
    Calls Tryz.prog 13 #[.pointer (some ⟨b, 0, none⟩), .int .i64 e, .int .i64 p] w fun r w' => r = .returned (.tuple #[]) ∧ EB w' b s i e p d ∧ FrE b w w' := by
  obtain ⟨c0, c1, c2, c3, c4, cf, hl⟩ := h.cells
  have HH := hide h
  clear h
  go_enter Tryz.func13, Tryz.ntmps13
  go_wp2
  go_end0
  exact ⟨rfl, (HH.out.set2 e).set3 p, (FrE.set b w 2 _).trans (FrE.set b _ 3 _)⟩
set_option maxRecDepth 100000 in
theorem fail_no (b : Nat) (s : ByteArray) (i er at_ d e p : Int) (w : World) (h : EB w b s i er at_ d) (he : er ≠ 0) :
    Calls Tryz.prog 13 #[.pointer (some ⟨b, 0, none⟩), .int .i64 e, .int .i64 p] w fun r w' => r = .returned (.tuple #[]) ∧ w' = w := by
  obtain ⟨c0, c1, c2, c3, c4, cf, hl⟩ := h.cells
  have hb : (er == 0) = false := by rw [beq_eq_false_iff_ne]; exact he
  clear h
  go_enter Tryz.func13, Tryz.ntmps13
  go_wp2
  go_end0
  exact ⟨rfl, rfl⟩
def isB (l : List UInt8) (i : Nat) (c : UInt8) : Bool := l[i]? == some c
set_option maxRecDepth 100000 in
set_option maxHeartbeats 1000000 in
theorem is_no (b : Nat) (s : ByteArray) (i er at_ d : Int) (c : UInt8) (w : World) (h : EB w b s i er at_ d) (he : er ≠ 0) :
    Calls Tryz.prog 22 #[.pointer (some ⟨b, 0, none⟩), .int .u8 (c.toNat : Int)] w fun r w' => r = .returned (.bool false) ∧ w' = w.drew := by
  obtain ⟨c0, c1, c2, c3, c4, cf, hl⟩ := h.cells
  have hb : (er == 0) = false := by rw [beq_eq_false_iff_ne]; exact he
  clear h
  go_enter Tryz.func22, Tryz.ntmps22
  go_wp2
  go_region
  all_goals go_wp2
  all_goals go_ret
  all_goals exact ⟨rfl, rfl⟩
set_option maxRecDepth 100000 in
set_option maxHeartbeats 1000000 in
theorem is_ok (b : Nat) (s : ByteArray) (i : Nat) (at_ d : Int) (c : UInt8) (w : World) (h : EB w b s (i : Int) 0 at_ d) :
    Calls Tryz.prog 22 #[.pointer (some ⟨b, 0, none⟩), .int .u8 (c.toNat : Int)] w fun r w' => r = .returned (.bool (isB s.data.toList i c)) ∧ w' = w.drew := by
  obtain ⟨c0, c1, c2, c3, c4, cf, hl⟩ := h.cells
  clear h
  have hsl : s.data.toList.length = s.size := by simp
  by_cases hlt : i < s.size
  · have hge : s.data.toList[i]? = some s[i] := by rw [List.getElem?_eq_getElem (by simpa using hlt)]; rfl
    have hiI : (i : Int) < (s.size : Int) := by omega
    have hre : isB s.data.toList i c = (s[i] == c) := by unfold isB; rw [hge]; simp
    rw [hre]
    cases hc : (s[i] == c) with
    | true =>
      have hcc : s[i] = c := by simpa using hc
      have hb : ((s[i].toNat : Int) == (c.toNat : Int)) = true := by rw [hcc]; simp
      clear hge hre hc hcc
      go_enter Tryz.func22, Tryz.ntmps22
      go_wp2_with fail
      go_region_held3 (fun w' => w'.cell? ⟨b, 0, none⟩ = some (.string s) ∧ w'.cell? ⟨b, 1, none⟩ = some (.int .i64 (i : Int)) ∧ w'.cell? ⟨b, 2, none⟩ = some (.int .i64 0)) (go_keep) (first | fail)
      all_goals go_wp2
      all_goals go_ret
      all_goals exact ⟨rfl, rfl⟩
    | false =>
      have hb : ((s[i].toNat : Int) == (c.toNat : Int)) = false := by
        rw [beq_eq_false_iff_ne] at hc ⊢
        intro e
        exact hc (UInt8.toNat_inj.1 (by omega))
      clear hge hre hc
      go_enter Tryz.func22, Tryz.ntmps22
      go_wp2_with fail
      go_region_held3 (fun w' => w'.cell? ⟨b, 0, none⟩ = some (.string s) ∧ w'.cell? ⟨b, 1, none⟩ = some (.int .i64 (i : Int)) ∧ w'.cell? ⟨b, 2, none⟩ = some (.int .i64 0)) (go_keep) (first | fail)
      all_goals go_wp2
      all_goals go_ret
      all_goals exact ⟨rfl, rfl⟩
  · have hge : s.data.toList[i]? = none := List.getElem?_eq_none (by omega)
    have hnI : ¬ ((i : Int) < (s.size : Int)) := by omega
    have hdn : decide (i < s.size) = false := decide_eq_false hlt
    have hre : isB s.data.toList i c = false := by unfold isB; rw [hge]; rfl
    rw [hre]
    clear hge hre
    go_enter Tryz.func22, Tryz.ntmps22
    go_wp2
    go_region
    all_goals go_wp2
    all_goals go_ret
    all_goals exact ⟨rfl, rfl⟩
end Go.Proofs.YtdlljlmgoiobpaaGreatDoor
