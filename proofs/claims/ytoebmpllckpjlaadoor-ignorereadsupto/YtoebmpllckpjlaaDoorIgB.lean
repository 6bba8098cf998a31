/- takes, takesParts, readLine. -/
import Derived.Test.YtoebmpllckpjlaaDoorIgA
import Derived.Test.YtoebmpllckpjlaaDoorGbMatch
namespace Go.Proofs.YtoebmpllckpjlaaDoor
open Go.RowKit Go.Maps

def takesP (p : ByteArray) : Bool := (partsS p).all (fun q => decide (wrongD q = 0))
set_option maxRecDepth 100000 in
set_option maxHeartbeats 1000000 in
theorem takes_any (s : ByteArray) (w : World) (hM : MaxW w) (h2 : 2 < w.heap.size) :
    Calls Tryd.prog 33 #[.string s] w fun e w' => e = .returned (.bool (decide (wrongD s = 0))) ∧ Below w.heap.size w w' := by
  have hp := parse_any s true w hM h2
  go_enter Tryd.func33, Tryd.ntmps33
  go_wp2_with fail
  refine hp.mono ?_
  rintro e w1 ⟨op, v, ks, pl, rfl, hkin, _, _, hb⟩
  obtain ⟨pa, pc, rfl⟩ := kin_shape hkin
  have HB := hide hb
  clear hb hkin hp
  go_wp2
  go_ret
  refine ⟨?_, HB.out.alloc HB.out.size _⟩
  show Ending.returned (.bool ((wrongD s : Int) == 0)) = _
  by_cases h : wrongD s = 0
  · rw [h]; rfl
  · have e1 : ((wrongD s : Int) == 0) = false := by rw [beq_eq_false_iff_ne]; omega
    rw [e1, decide_eq_false h]
theorem all_drop {α : Type} (f : α → Bool) (l : List α) (k : Nat) (h : k < l.length) : (l.drop k).all f = (f l[k] && (l.drop (k + 1)).all f) := by
  rw [List.drop_eq_getElem_cons h, List.all_cons]
theorem len_parts (s : ByteArray) : (partsS s).length ≤ s.size + 1 := partsS_length s
set_option maxRecDepth 100000 in
set_option maxHeartbeats 2000000 in
theorem takesParts_any (s : ByteArray) (w : World) (hs : s.size ≤ 1073741824) (hM : MaxW w) (h2 : 2 < w.heap.size) :
    Calls Tryd.prog 20 #[.string s] w fun e w' => e = .returned (.bool (takesP s)) ∧ Below w.heap.size w w' := by
  have hp := (callsIn_wide (n := 8)).1 (parts_in 8 (by omega) s hs w)
  have hln := len_parts s
  obtain ⟨ps, hps⟩ : ∃ ps, partsS s = ps := ⟨_, rfl⟩
  have HT := hide (show takesP s = ps.all (fun q => decide (wrongD q = 0)) by unfold takesP; rw [hps])
  rw [hps] at hp hln
  clear hps
  go_enter Tryd.func20, Tryd.ntmps20
  go_wp2_with fail
  refine hp.mono ?_
  rintro e w1 ⟨v, rfl, hown, hb⟩
  have hrow := StrRow.of_owns hown
  clear hp hown
  have hM1 := hM.below h2 hb
  have h21 : 2 < w1.heap.size := Nat.lt_of_lt_of_le h2 hb.size
  obtain ⟨g, cap, rfl⟩ : ∃ a cap, v = .slice a ps.length cap := by
    rcases hrow with ⟨e, e2⟩ | ⟨g, cap, e, _⟩
    · subst e2; exact ⟨_, _, e⟩
    · exact ⟨_, _, e⟩
  have HR := hide hrow
  have HB := hide hb
  clear hrow hb
  go_wp2
  go_loopw [4, 8] (fun _ iv wr => ∃ (i : Nat), iv = .int .i64 (i : Int) ∧ i ≤ ps.length ∧ ps.all (fun q => decide (wrongD q = 0)) = (ps.drop i).all (fun q => decide (wrongD q = 0)) ∧ Below w1.heap.size w1 wr) (fun _ iv _ => ps.length - (intOf iv).toNat)
  case atStart => exact ⟨0, rfl, Nat.zero_le _, by rw [List.drop_zero], Below.refl _ _⟩
  case round =>
    obtain ⟨i, rfl, hi, hall, hbr⟩ := hrel
    have HALL := hide hall
    have HBR := hide hbr
    by_cases hlt : i < ps.length
    · have hiI : (i : Int) < (ps.length : Int) := by omega
      rcases HR.out with ⟨_, e⟩ | ⟨g', cap', e, hg, hcap, hx⟩
      · rw [e] at hlt; simp at hlt
      obtain ⟨rfl, rfl⟩ : g = some ⟨g', 0, none⟩ ∧ cap = cap' := by cases e; exact ⟨rfl, rfl⟩
      have hcell : wr.cell? ⟨g', i, none⟩ = some (.string (ps[i]'hlt)) := (hbr.cell (p := ⟨g', i, none⟩) hg).trans (hx i _ (List.getElem?_eq_getElem hlt))
      have htk := takes_any (ps[i]'hlt) wr (hM1.below h21 hbr) (Nat.lt_of_lt_of_le h21 hbr.size)
      have HD := hide (all_drop (fun q => decide (wrongD q = 0)) ps i hlt)
      obtain ⟨r, hr⟩ : ∃ r, decide (wrongD (ps[i]'hlt) = 0) = r := ⟨_, rfl⟩
      rw [hr] at htk HD
      clear hr hall hbr e
      cases r with
      | false =>
        go_wp2_with (go_at_call 33; refine htk.mono ?_; rintro e w2 ⟨rfl, hb2⟩)
        go_ret
        refine ⟨?_, HB.out.trans ((HBR.out.trans (hb2.mono HBR.out.size)).mono HB.out.size)⟩
        have e1 := HT.out
        have e2 := HALL.out
        have e3 := HD.out
        rw [e1, e2, e3]
        rfl
      | true =>
        go_wp2_with (go_at_call 33; refine htk.mono ?_; rintro e w2 ⟨rfl, hb2⟩)
        go_roundw
        case rel => exact ⟨i + 1, by go_num, by omega, by rw [HALL.out, HD.out]; simp, HBR.out.trans (hb2.mono HBR.out.size)⟩
        case measure => simp [intOf]; omega
    · have hie : i = ps.length := by omega
      subst hie
      have hiI : ¬ ((ps.length : Int) < (ps.length : Int)) := by omega
      clear hall hbr
      go_wp2
      go_ret
      refine ⟨?_, HB.out.trans (HBR.out.mono HB.out.size)⟩
      rw [HT.out, HALL.out, List.drop_length]
      rfl
end Go.Proofs.YtoebmpllckpjlaaDoor
