/- The reference's Find. -/
import Derived.Test.YtehbjabneocflaaDoorRefAtA
import Derived.Test.YtehbjabneocflaaDoorRefAtB
namespace Go.Proofs.YtehbjabneocflaaDoor
open Go.RowKit

theorem refat_empty (L : List NodeD) (v : Value) (b F k : Nat) (s : ByteArray) (fo : Bool) (links : Nat) (w : World) (hfb : FB 65 w b v links) (he : s.toList.isEmpty = true) :
    Calls Tryd.prog 29 #[.pointer (some ⟨b, 0, none⟩), .int .i64 (k : Int), .string s, .bool fo] w (AtPost 65 v b (findD L (F + 1) k s fo links) w) := by
  have HS : Hid (findD L (F + 1) k s fo links = (0, 6, links)) := by unfold Hid findD; rw [he]; rfl
  have HFB := hide hfb
  clear hfb
  go_enter Tryd.func29, Tryd.ntmps29
  go_wp2
  go_ret2
  exact at_mk HS.out (by omega) (unhide HFB) (grown_of_below (Below.refl _ _))
theorem refat_any (L : List NodeD) (v : Value) (C b : Nat) (hwf : WF L) (hC : C ≤ b) : ∀ F, AtOK L v C b F := by
  intro F
  induction F with
  | zero => intro k s fo links w hk hs hl hF; omega
  | succ F IH =>
    intro k s fo links w hk hs hl hF hrow hfb
    cases he : s.toList.isEmpty
    · have h1 := emp_size_no he
      by_cases hc : (s[0].toNat : Int) = 47
      · cases fo
        · cases hd : endsSlash s
          · exact refat_ffs L v C b F hwf hC IH k s links w hk hs hl hF hrow hfb h1 hd hc
          · exact refat_fts L v C b F hwf hC IH k s links w hk hs hl hF hrow hfb h1 hd hc
        · cases hd : endsSlash s
          · exact refat_tfs L v C b F hwf hC IH k s links w hk hs hl hF hrow hfb h1 hd hc
          · exact refat_tts L v C b F hwf hC IH k s links w hk hs hl hF hrow hfb h1 hd hc
      · cases fo
        · cases hd : endsSlash s
          · exact refat_ffn L v C b F hwf hC IH k s links w hk hs hl hF hrow hfb h1 hd hc
          · exact refat_ftn L v C b F hwf hC IH k s links w hk hs hl hF hrow hfb h1 hd hc
        · cases hd : endsSlash s
          · exact refat_tfn L v C b F hwf hC IH k s links w hk hs hl hF hrow hfb h1 hd hc
          · exact refat_ttn L v C b F hwf hC IH k s links w hk hs hl hF hrow hfb h1 hd hc
    · exact refat_empty L v b F k s fo links w hfb he

/-- What Find answers: the node, and the error. -/
def findR (L : List NodeD) (from_ : Int) (s : ByteArray) (fo : Bool) : FRes := if from_ < 0 ∨ (L.length : Int) ≤ from_ then (0, 6, 0) else findD L 41 from_.toNat s fo 0
theorem ret_two {x y x2 y2 : Int} (h1 : x = x2) (h2 : y = y2) : Ending.returned (.tuple #[.int .i64 x, .int .i64 y]) = .returned (.tuple #[.int .i64 x2, .int .i64 y2]) := by rw [h1, h2]

theorem NodeRow.form {C : Nat} {W : World} {v : Value} {L : List NodeD} (h : NodeRow C W v L) : ∃ a cap, v = .slice a L.length cap := by
  rcases h with ⟨rfl, rfl⟩ | ⟨g, cap, rfl, _⟩
  · exact ⟨_, _, rfl⟩
  · exact ⟨_, _, rfl⟩

set_option maxRecDepth 100000 in
set_option maxHeartbeats 2000000 in
theorem reffind_any (L : List NodeD) (v : Value) (C : Nat) (hwf : WF L) (from_ : Int) (s : ByteArray) (fo : Bool) (w : World) (hs : s.size ≤ 1073741824) (hrow : NodeRow C w v L) (hC : C ≤ w.heap.size) :
    Calls Tryd.prog 17 #[v, .int .i64 from_, .string s, .bool fo] w fun e w' => e = .returned (.tuple #[.int .i64 ((findR L from_ s fo).1 : Int), .int .i64 (findR L from_ s fo).2.1]) ∧ Below w.heap.size w w' := by
  obtain ⟨a, cap, rfl⟩ := hrow.form
  have hlen := hwf.len
  have HROW := hide hrow
  have HWF := hide hwf
  clear hrow hwf
  by_cases h0 : from_ < 0
  · have HR : Hid (findR L from_ s fo = (0, 6, 0)) := by unfold Hid findR; rw [if_pos (.inl h0)]
    go_enter Tryd.func17, Tryd.ntmps17
    go_wp2
    go_ret2
    exact ⟨by rw [HR.out]; rfl, Below.refl _ _⟩
  · by_cases h2 : (L.length : Int) ≤ from_
    · have HR : Hid (findR L from_ s fo = (0, 6, 0)) := by unfold Hid findR; rw [if_pos (.inr h2)]
      go_enter Tryd.func17, Tryd.ntmps17
      go_wp2
      go_ret2
      exact ⟨by rw [HR.out]; rfl, Below.refl _ _⟩
    · obtain ⟨k, rfl⟩ : ∃ k : Nat, from_ = (k : Int) := ⟨from_.toNat, by omega⟩
      have HR : Hid (findR L (k : Int) s fo = findD L 41 k s fo 0) := by unfold Hid findR; rw [if_neg (by omega), Int.toNat_natCast]
      go_enter Tryd.func17, Tryd.ntmps17
      go_wp2_with fail
      obtain ⟨W0, hW0⟩ : ∃ W0, w.alloc (.cells #[.slice a L.length cap, .int .i64 0] 65) = W0 := ⟨_, rfl⟩
      rw [hW0]
      have hfb : FB 65 W0 w.heap.size (.slice a L.length cap) 0 := by rw [← hW0]; exact World.alloc_heap_new w _
      have hbl : Below w.heap.size w W0 := by rw [← hW0]; exact (Below.refl _ _).alloc (Nat.le_refl _) _
      clear hW0
      refine (refat_any L _ C w.heap.size (unhide HWF) hC 41 k s fo 0 W0 (by omega) hs (by omega) (by omega) ((unhide HROW).below (hbl.mono hC)) hfb).mono ?_
      rintro e w1 ⟨rfl, _, hg1⟩
      go_wp2
      go_ret2
      exact ⟨by rw [HR.out]; rfl, hbl.grown hg1 hbl.size (fun j e => by have := Option.some.inj e; omega)⟩
end Go.Proofs.YtehbjabneocflaaDoor
