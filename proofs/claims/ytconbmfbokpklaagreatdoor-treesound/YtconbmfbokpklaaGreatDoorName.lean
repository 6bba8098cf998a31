/- strings.ContainsAny of the four signs that no name has; the program's isName. -/
import Derived.Test.YtconbmfbokpklaaGreatDoorRune
import Derived.Lib.OthersKept
import Derived.Lib.IndexAny
namespace Go.Proofs.YtconbmfbokpklaaGreatDoor
open Go.RowKit

def four : List UInt8 := [0, 9, 10, 47]
/-- Whether one of the four is in it. -/
def AnyPost (s : ByteArray) (w : World) (e : Ending) (w' : World) : Prop := ∃ i : Int, e = .returned (.int .i64 i) ∧ (0 ≤ i ↔ ∃ c ∈ s.data.toList, c ∈ four) ∧ Below w.heap.size w w'
theorem any_yes {s : ByteArray} {w w' : World} {k : Nat} {i : Nat} (hk : k < s.size) (hc : s[k] ∈ four) (hb : Below w.heap.size w w') : AnyPost s w (.returned (.int .i64 (i : Int))) w' := by
  refine ⟨_, rfl, ⟨fun _ => ⟨s[k], ?_, hc⟩, fun _ => by omega⟩, hb⟩
  have : s.data.toList[k]'(by simpa using hk) = s[k] := rfl
  rw [← this]; exact List.getElem_mem _
theorem any_no {s : ByteArray} {w w' : World} (h : ∀ j (hj : j < s.size), s[j] ∉ four) (hb : Below w.heap.size w w') : AnyPost s w (.returned (.int .i64 (-1))) w' := by
  refine ⟨_, rfl, ⟨fun h => by omega, ?_⟩, hb⟩
  rintro ⟨c, hc, h4⟩
  obtain ⟨j, hj, e⟩ := List.getElem_of_mem hc
  exact absurd h4 (by rw [← e]; exact h j (by simpa using hj))
theorem four_idx (c : UInt8) : (c ∈ four ∧ 0 ≤ Lib.indexByte [0, 9, 10, 47] c) ∨ (c ∉ four ∧ Lib.indexByte [0, 9, 10, 47] c = -1) := by
  rcases idx_cases c ([0, 9, 10, 47] : List UInt8) with ⟨e, hn⟩ | ⟨p, r, e, _, hi⟩
  · exact .inr ⟨hn, e⟩
  · refine .inl ⟨?_, by rw [hi]; omega⟩
    show c ∈ ([0, 9, 10, 47] : List UInt8)
    rw [e]; simp
theorem four_low {c : UInt8} (h : 128 ≤ c.toNat) : c ∉ four := by
  intro hm
  simp [four] at hm
  rcases hm with rfl | rfl | rfl | rfl <;> simp at h
set_option maxHeartbeats 2000000 in
set_option maxRecDepth 100000 in
theorem indexAny_short (s : ByteArray) (w : World) (h8 : s.size ≤ 8) : Calls Tryz.prog 139 #[.string s, .string ⟨#[0, 9, 10, 47]⟩] w (AnyPost s w) := by
  have h8z : decide ((8 : Int) < (s.size : Int)) = false := decide_eq_false (by omega)
  have HS := hide (Tryz.strings_shouldUseASCIISet (s.size : Int) w)
  rw [h8z] at HS
  go_enter Tryz.func139, Tryz.ntmps139
  go_wp2_with (go_at_call 148; refine (unhide HS).mono ?_; rintro e w' ⟨rfl, rfl⟩)
  obtain ⟨k, hk⟩ : ∃ k, k = w'.heap.size := ⟨_, rfl⟩
  rw [← hk]
  have hit0 : (w'.iter s 0).heap[k]? = some (.stringIter s 0) := by rw [hk]; exact World.iter_heap w' s 0
  have hb0 : Below k w' (w'.iter s 0) := by rw [hk]; exact (Below.refl _ _).alloc (Nat.le_refl _) _
  have HK := hide hk
  clear hk
  go_loopw [9] (fun _ wr => ∃ pos : Nat, pos ≤ s.size ∧ wr.heap[k]? = some (.stringIter s pos) ∧ Below k w' wr ∧ ∀ j (hj : j < s.size), j < pos → s[j] ∉ four) (fun _ wr => s.size - World.iterPos wr k)
  case atStart => exact ⟨0, Nat.zero_le _, hit0, hb0, fun j hj h => by omega⟩
  case round =>
    obtain ⟨pos, hpos, hit, hbr, hno⟩ := hrel
    have HNO := hide hno
    have hip : World.iterPos wr k = pos := by unfold World.iterPos; rw [hit]
    have HIP := hide hip
    clear hno hip
    by_cases hlt : pos < s.size
    · by_cases hlow : (s[pos]).toNat < 128
      · have hnx := fun ty => Lib.run_next_ascii_at (P := Tryz.prog) wr k s pos ty hit hlt hlow
        have hit2 := Lib.iterAt_heap wr k s pos (pos + 1) hit
        have hb2 : Below k w' (wr.iterAt k s (pos + 1)) := Lib.below_iterAt hbr (Nat.le_refl _) s (pos + 1)
        obtain ⟨W2, hW2⟩ : ∃ W2, wr.iterAt k s (pos + 1) = W2 := ⟨_, rfl⟩
        rw [hW2] at hnx hit2 hb2
        clear hW2
        have hbk : ((s[pos].toNat : Int)).toNat.toUInt8 = s[pos] := by simp
        have HR := hide (Tryz.strings_IndexRune_ascii ⟨#[0, 9, 10, 47]⟩ (s[pos].toNat : Int) W2 (by omega) (by omega))
        rw [hbk] at HR
        have HIT := hide hit2
        clear hit hit2 hbk
        rcases four_idx s[pos] with ⟨hin, hge⟩ | ⟨hout, hneg⟩
        · have HIN := hide hin
          obtain ⟨z, hz⟩ : ∃ z : Int, Lib.indexByte [0, 9, 10, 47] s[pos] = z := ⟨_, rfl⟩
          rw [hz] at hge
          have HR2 : Hid (Calls Tryz.prog 141 #[.string ⟨#[0, 9, 10, 47]⟩, .int .i32 (s[pos].toNat : Int)] W2 fun e w' => e = .returned (.int .i64 z) ∧ w' = W2) := by rw [← hz]; exact unhide HR
          clear HR hz hin
          go_wp2_with (go_at_call 141; refine (unhide HR2).mono ?_; rintro e w3 ⟨rfl, rfl⟩)
          go_ret
          exact any_yes hlt HIN.out (by rw [← HK.out]; exact hb2)
        · have HOUT := hide hout
          have HR2 : Hid (Calls Tryz.prog 141 #[.string ⟨#[0, 9, 10, 47]⟩, .int .i32 (s[pos].toNat : Int)] W2 fun e w' => e = .returned (.int .i64 (-1)) ∧ w' = W2) := by rw [← hneg]; exact unhide HR
          clear HR hneg hout
          go_wp2_with (go_at_call 141; refine (unhide HR2).mono ?_; rintro e w3 ⟨rfl, rfl⟩)
          go_roundw
          case rel =>
            refine ⟨pos + 1, by omega, unhide HIT, hb2, fun j hj h => ?_⟩
            by_cases e : j = pos
            · subst e; exact HOUT.out
            · exact HNO.out j hj (by omega)
          case measure =>
            rw [HIP.out]
            have : World.iterPos w3 k = pos + 1 := by unfold World.iterPos; rw [unhide HIT]
            rw [this]; omega
      · have hhi : 128 ≤ (s[pos]).toNat := by omega
        have hnx := fun ty => Lib.run_next_any_at (P := Tryz.prog) wr k s pos ty hit hlt
        obtain ⟨hd1, hd2⟩ := decode_high s pos hlt hhi
        have hd3 := decode_le s pos
        have hdw := decode_wide s pos hlt hhi
        obtain ⟨rr, hrr⟩ : ∃ rr, (Utf8.decode s pos).1 = rr := ⟨_, rfl⟩
        obtain ⟨ww, hww⟩ : ∃ ww, (Utf8.decode s pos).2 = ww := ⟨_, rfl⟩
        rw [hrr] at hnx hd1 hd3
        rw [hww] at hnx hd2 hdw
        have hit2 := Lib.iterAt_heap wr k s pos (pos + ww) hit
        have hb2 : Below k w' (wr.iterAt k s (pos + ww)) := Lib.below_iterAt hbr (Nat.le_refl _) s (pos + ww)
        obtain ⟨W2, hW2⟩ : ∃ W2, wr.iterAt k s (pos + ww) = W2 := ⟨_, rfl⟩
        rw [hW2] at hnx hit2 hb2
        have hpw : pos + ww ≤ s.size := by
          obtain ⟨h1, _⟩ := hdw (ww - 1) (by omega)
          omega
        have HDW := hide hdw
        have HIT := hide hit2
        have HR2 := hide (indexRune_high rr W2 hd1 hd3)
        clear hW2 hit hit2 hrr hww hdw
        go_wp2_with (go_at_call 141; refine (unhide HR2).mono ?_; rintro e w3 ⟨rfl, hb3⟩)
        have hkW : k < W2.heap.size := (Array.getElem?_eq_some_iff.1 (unhide HIT)).1
        have HIT3 : Hid (w3.heap[k]? = some (.stringIter s (pos + ww))) := (hb3.block k hkW).trans (unhide HIT)
        go_roundw
        case rel =>
          refine ⟨pos + ww, hpw, unhide HIT3, hb2.trans (hb3.mono (by omega)), fun j hj h => ?_⟩
          by_cases e : j < pos
          · exact HNO.out j hj e
          · obtain ⟨h1, h2⟩ := HDW.out (j - pos) (by omega)
            have e2 : pos + (j - pos) = j := by omega
            refine four_low ?_
            have e3 : s[j] = s[pos + (j - pos)] := by congr 1; omega
            rw [e3]; exact h2
        case measure =>
          rw [HIP.out]
          have : World.iterPos w3 k = pos + ww := by unfold World.iterPos; rw [unhide HIT3]
          rw [this]; omega
    · have hnx := fun ty => Lib.run_next_end_at (P := Tryz.prog) wr k s pos ty hit hlt
      clear hit
      go_wp2
      go_ret
      exact any_no (fun j hj => HNO.out j hj (by omega)) (by rw [← HK.out]; exact hbr)
theorem Tryz.zero143 (w : World) : (zeroValue 143).run Tryz.prog w = .ok (.agg (Array.replicate 256 (.bool false))) w := by kernel_rfl
theorem indexAny_iff (l : List UInt8) : 0 ≤ Lib.indexAny l four ↔ ∃ c ∈ l, c ∈ four := by
  induction l with
  | nil => simp [Lib.indexAny]
  | cons b l ih =>
    have hge := Lib.indexAny_ge four l
    unfold Lib.indexAny
    by_cases h : four.contains b = true
    · rw [if_pos h]
      have hm : b ∈ four := by simpa using h
      exact ⟨fun _ => ⟨b, by simp, hm⟩, fun _ => Int.le_refl _⟩
    · rw [if_neg h]
      have hm : b ∉ four := by simpa using h
      by_cases h2 : (Lib.indexAny l four == -1) = true
      · rw [if_pos h2]
        have e : Lib.indexAny l four = -1 := by simpa using h2
        constructor
        · intro h; omega
        · rintro ⟨c, hc, h4⟩
          simp at hc
          rcases hc with rfl | hc
          · exact absurd h4 hm
          · have := ih.2 ⟨c, hc, h4⟩; omega
      · rw [if_neg h2]
        have e : Lib.indexAny l four ≠ -1 := by simpa using h2
        constructor
        · intro _
          obtain ⟨c, hc, h4⟩ := ih.1 (by omega)
          exact ⟨c, by simp [hc], h4⟩
        · intro _; omega
theorem indexAny_any (s : ByteArray) (w : World) (hs : s.size ≤ 1000000) : Calls Tryz.prog 139 #[.string s, .string ⟨#[0, 9, 10, 47]⟩] w (AnyPost s w) := by
  by_cases h8 : s.size ≤ 8
  · exact indexAny_short s w h8
  · refine (Tryz.strings_IndexAny_long Tryz.zero143 s ⟨#[0, 9, 10, 47]⟩ w (by decide) (by omega) (by omega) (by decide) ?_).mono ?_
    · intro j b hj
      match j, hj with
      | 0, hj => cases hj; decide
      | 1, hj => cases hj; decide
      | 2, hj => cases hj; decide
      | 3, hj => cases hj; decide
      | j + 4, hj => cases hj
    · rintro e w' ⟨rfl, rfl⟩
      exact ⟨_, rfl, indexAny_iff _, ((Below.refl _ _).alloc (Nat.le_refl _) _).alloc (by simp) _⟩
set_option maxHeartbeats 1000000 in
theorem containsAny_any (s : ByteArray) (w : World) (hs : s.size ≤ 1000000) : Calls Tryz.prog 122 #[.string s, .string ⟨#[0, 9, 10, 47]⟩] w fun e w' => (∃ b : Bool, e = .returned (.bool b) ∧ (b = true ↔ ∃ c ∈ s.data.toList, c ∈ four)) ∧ Below w.heap.size w w' := by
  go_enter Tryz.func122, Tryz.ntmps122
  go_wp2_with fail
  refine (indexAny_any s _ hs).mono ?_
  rintro e w' ⟨i, rfl, hi, hb⟩
  have HI := hide hi
  clear hi
  go_wp2
  go_ret
  exact ⟨⟨decide (0 ≤ i), rfl, by rw [decide_eq_true_eq]; exact HI.out⟩, hb⟩
def NamePost (b : Bool) (w : World) (e : Ending) (w' : World) : Prop := e = .returned (.bool b) ∧ Below w.heap.size w w'
theorem name_four {s : ByteArray} (h47 : (47 : UInt8) ∉ s.data.toList) {b : Bool} (hb : b = true ↔ ∃ c ∈ s.data.toList, c ∈ four) (e1 : s.toList.isEmpty = false) (e2 : ¬ (60 : Int) < (s.size : Int)) (e3 : (s.toList == [46]) = false) (e4 : (s.toList == [46, 46]) = false) : nameOk s = !b := by
  unfold nameOk
  rw [e1, e3, e4, show decide (s.size ≤ 60) = true from by rw [decide_eq_true_eq]; omega]
  have key : s.data.toList.all (fun c => !badB c) = !b := by
    rw [Bool.eq_iff_iff, List.all_eq_true]
    constructor
    · intro h
      cases hbb : b
      · rfl
      · exfalso
        obtain ⟨c, hc, h4⟩ := hb.1 hbb
        have h1 := h c hc
        simp [four] at h4
        rcases h4 with rfl | rfl | rfl | rfl
        · simp [badB] at h1
        · simp [badB] at h1
        · simp [badB] at h1
        · exact h47 hc
    · intro h c hc
      cases hbd : badB c
      · rfl
      · exfalso
        have : b = true := hb.2 ⟨c, hc, by unfold badB at hbd; rw [decide_eq_true_eq] at hbd; simp [four]; rcases hbd with h | h | h <;> simp [h]⟩
        rw [this] at h; cases h
  rw [key]; simp
set_option maxHeartbeats 1000000 in
theorem isNameP_any (s : ByteArray) (w : World) (hs : s.size ≤ 1000000) (h47 : (47 : UInt8) ∉ s.data.toList) : Calls Tryz.prog 94 #[.string s] w (NamePost (nameOk s) w) := by
  cases e1 : s.toList.isEmpty
  · by_cases e2 : (60 : Int) < (s.size : Int)
    · have HR : Hid (nameOk s = false) := by
        unfold Hid nameOk; rw [show decide (s.size ≤ 60) = false from by rw [decide_eq_false_iff_not]; omega]; simp
      go_enter Tryz.func94, Tryz.ntmps94
      go_wp2
      go_ret
      exact ⟨ret_b HR.out.symm, Below.refl _ _⟩
    · cases e3 : (s.toList == [46])
      · cases e4 : (s.toList == [46, 46])
        · have HF : Hid (∀ b : Bool, (b = true ↔ ∃ c ∈ s.data.toList, c ∈ four) → nameOk s = !b) := fun b hb => name_four h47 hb e1 e2 e3 e4
          clear h47
          go_enter Tryz.func94, Tryz.ntmps94
          go_wp2_with fail
          refine (containsAny_any s _ hs).mono ?_
          rintro e w' ⟨⟨b, rfl, hb⟩, hbl⟩
          have HB := hide (HF.out b hb)
          clear hb
          go_wp2
          go_ret
          exact ⟨ret_b HB.out.symm, hbl⟩
        · have HR : Hid (nameOk s = false) := by unfold Hid nameOk; rw [e4]; simp
          go_enter Tryz.func94, Tryz.ntmps94
          go_wp2
          go_ret
          exact ⟨ret_b HR.out.symm, Below.refl _ _⟩
      · have HR : Hid (nameOk s = false) := by unfold Hid nameOk; rw [e3]; simp
        go_enter Tryz.func94, Tryz.ntmps94
        go_wp2
        go_ret
        exact ⟨ret_b HR.out.symm, Below.refl _ _⟩
  · have HR : Hid (nameOk s = false) := by unfold Hid nameOk; rw [e1]; simp
    go_enter Tryz.func94, Tryz.ntmps94
    go_wp2
    go_ret
    exact ⟨ret_b HR.out.symm, Below.refl _ _⟩
end Go.Proofs.YtconbmfbokpklaaGreatDoor
