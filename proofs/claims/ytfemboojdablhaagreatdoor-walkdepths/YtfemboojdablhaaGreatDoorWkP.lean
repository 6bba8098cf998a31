/- Walk: the root is found. -/
import Derived.Test.YtfemboojdablhaaGreatDoorWkO
import Derived.Test.YtfemboojdablhaaGreatDoorTWFind
namespace Go.Proofs.YtfemboojdablhaaGreatDoor.Tre
open Go.RowKit Go.Shelf

def slashS : ByteArray := ⟨#[47]⟩
theorem parts_slash : partsS ⟨#[47]⟩ = [] := by
  unfold partsS cutS
  rw [show splitL 47 (⟨#[47]⟩ : ByteArray).data.toList = [[], []] from by simp [splitL]]
  rw [List.filter_eq_nil_iff]
  intro a ha
  simp at ha
  subst ha
  simp [keep, ByteArray.toList_eq, bs]
theorem suffix_slash (w : World) : Calls Tryz.prog 117 #[.string ⟨#[47]⟩, .string ⟨#[47]⟩] w fun e w' => e = .returned (.bool true) ∧ w' = w := by
  refine (suffix_any ⟨#[47]⟩ w (by decide) (by decide)).mono ?_
  rintro e w' ⟨rfl, rfl⟩
  exact ⟨rfl, rfl⟩
set_option maxRecDepth 100000 in
set_option maxHeartbeats 4000000 in
theorem wfind_root (C b g cap : Nat) (L : List NodeD) (n : NodeD) (links : Nat) (w : World) (hn : L[0]? = some n) (hd : dirD n = true) (hrow : NodeRow C w (.slice (some ⟨g, 0, none⟩) L.length cap) L) (hC : C ≤ w.heap.size) (hfb : FB w b (.slice (some ⟨g, 0, none⟩) L.length cap) links) :
    Calls Tryz.prog 75 #[.pointer (some ⟨b, 0, none⟩), .int .i64 0, .string ⟨#[47]⟩, .bool false] w fun e w' => e = .returned (.tuple #[.int .i64 0, .nilIface]) ∧ Below w.heap.size w w' := by
  have hl : 0 < L.length := (List.getElem?_eq_some_iff.1 hn).1
  have hlI : (0 : Int) < (L.length : Int) := by omega
  have HROW := hide hrow
  have HFB := hide hfb
  have hbl := hfb.lt
  have cc0 := hfb.c0
  have HP := hide (parts_any ⟨#[47]⟩ w (by decide))
  have HSU := hide (suffix_slash w)
  have HN := hide (hasNodeW (some ⟨g, 0, none⟩) L.length cap 0 w (by omega) (by omega))
  have HDI : ∀ w', Hid (Calls Tryz.prog 86 #[.int .u8 n.kind] w' fun e w'' => e = .returned (.bool true) ∧ w'' = w') := fun w' => by
    have := isdir_any n.kind w'
    rw [show (n.kind == 100 || n.kind == 120) = true from hd] at this
    exact this
  clear hrow hfb
  go_enter Tryz.func75, Tryz.ntmps75
  go_wp2_with fail
  refine (unhide HN).mono ?_
  rintro e ww ⟨rfl, hww⟩
  rw [hww]
  clear hww
  go_wp2_with fail
  refine (unhide HSU).mono ?_
  rintro e ww2 ⟨rfl, hww⟩
  rw [hww]
  clear hww
  go_wp2_with fail
  refine (unhide HP).mono ?_
  rintro e w1 ⟨v1, rfl, hown1, hb1⟩
  rw [parts_slash] at hown1
  obtain ⟨a1, cap1, rfl⟩ : ∃ a1 cap1, v1 = .slice a1 0 cap1 := by
    rcases hown1.2 with ⟨e, _⟩ | ⟨g1, cap1, cur, e, _⟩
    · exact ⟨_, _, e⟩
    · exact ⟨_, _, e⟩
  have hf1 := (unhide HFB).below hb1 hbl
  have d0 := hf1.c0
  obtain ⟨kv, hna, _⟩ : ∃ kv, NodeAt w1 g 0 n kv ∧ IntRow C w1 kv n.kids := by
    rcases (unhide HROW).below (hb1.mono hC) with ⟨e, _⟩ | ⟨g', cap', e, _, _, hx⟩
    · cases e
    · simp only [Value.slice.injEq, Option.some.injEq, Addr.mk.injEq] at e
      obtain ⟨⟨rfl, _⟩, _⟩ := e
      exact hx 0 n hn
  have n0 : w1.cell? ⟨g, 0, none⟩ = some (.int .u8 n.kind) := by have := hna.1; simpa using this
  have HB1 := hide hb1
  clear hb1 hf1 hna hown1 hn hd
  go_wp2
  refine wp_loop_rounds 1 ?_
  rw [rounds_succ]
  go_wp2_with (go_at_call 86; refine (HDI _).out.mono ?_; rintro e w6 ⟨rfl, rfl⟩)
  go_ret2
  exact ⟨rfl, HB1.out⟩
set_option maxRecDepth 100000 in
set_option maxHeartbeats 2000000 in
theorem find_root (C g cap : Nat) (L : List NodeD) (n : NodeD) (w : World) (hn : L[0]? = some n) (hd : dirD n = true) (hrow : NodeRow C w (.slice (some ⟨g, 0, none⟩) L.length cap) L) (hC : C ≤ w.heap.size) :
    Calls Tryz.prog 43 #[.slice (some ⟨g, 0, none⟩) L.length cap, .int .i64 0, .string ⟨#[47]⟩, .bool false] w fun e w' => e = .returned (.tuple #[.int .i64 0, .int .i64 0]) ∧ Below w.heap.size w w' := by
  have HF : ∀ W0, FB W0 w.heap.size (.slice (some ⟨g, 0, none⟩) L.length cap) 0 → Below w.heap.size w W0 → Hid (Calls Tryz.prog 75 #[.pointer (some ⟨w.heap.size, 0, none⟩), .int .i64 0, .string ⟨#[47]⟩, .bool false] W0 fun e w' => e = .returned (.tuple #[.int .i64 0, .nilIface]) ∧ Below W0.heap.size W0 w') := fun W0 hfb hbl =>
    hide (wfind_root C w.heap.size g cap L n 0 W0 hn hd (hrow.below (hbl.mono hC)) (Nat.le_trans hC hbl.size) hfb)
  clear hrow hn hd
  go_enter Tryz.func43, Tryz.ntmps43
  go_wp2_with fail
  obtain ⟨W0, hW0⟩ : ∃ W0, w.alloc (.cells #[.slice (some ⟨g, 0, none⟩) L.length cap, .int .i64 0] 134) = W0 := ⟨_, rfl⟩
  rw [hW0]
  have hfb : FB W0 w.heap.size (.slice (some ⟨g, 0, none⟩) L.length cap) 0 := by rw [← hW0]; exact World.alloc_heap_new w _
  have hbl : Below w.heap.size w W0 := by rw [← hW0]; exact (Below.refl _ _).alloc (Nat.le_refl _) _
  clear hW0
  refine (unhide (HF W0 hfb hbl)).mono ?_
  rintro e w1 ⟨rfl, hb1⟩
  have HB := hide (hbl.trans (hb1.mono hbl.size))
  clear HF hb1 hfb hbl
  go_wp2
  go_ret2
  exact ⟨rfl, HB.out⟩
end Go.Proofs.YtfemboojdablhaaGreatDoor.Tre
