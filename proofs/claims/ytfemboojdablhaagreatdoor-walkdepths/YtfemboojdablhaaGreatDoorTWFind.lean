/- The program's finder along a way that is there: find and Find. -/
import Derived.Test.YtfemboojdablhaaGreatDoorTWKid
import Derived.Test.YtfemboojdablhaaGreatDoorTGSeq
namespace Go.Proofs.YtfemboojdablhaaGreatDoor.Tre
open Go.RowKit

set_option maxHeartbeats 1000000 in
theorem wsuffix_any (a : ByteArray) (w : World) (h1 : 1 ≤ a.size) (hs : a.size ≤ 1073741824) (he : ((a.extract (a.size - 1) a.size).toList == [47]) = false) :
    Calls Tryz.prog 117 #[.string a, .string ⟨#[47]⟩] w fun e w' => e = .returned (.bool false) ∧ w' = w := by
  go_enter Tryz.func117, Tryz.ntmps117
  go_wp2
  go_ret
  exact ⟨rfl, rfl⟩
/-- A way that is there, name by name. -/
def ChainW (L : List NodeD) (ps : List ByteArray) (ks : Nat → Nat) : Prop := ∀ (j : Nat) (p : ByteArray), ps[j]? = some p → OneOn L (ks j) p (decide (j < ps.length - 1)) (ks (j + 1))
set_option maxRecDepth 100000 in
set_option maxHeartbeats 4000000 in
theorem wfind_any (C b g cap : Nat) (L : List NodeD) (ks : Nat → Nat) (s : ByteArray) (links : Nat) (w : World) (hKL : ∀ (i : Nat) (n : NodeD), L[i]? = some n → n.kids.length ≤ 1000 ∧ ∀ c ∈ n.kids, c < L.length) (hch : ChainW L (partsS s) ks) (hk : ks 0 < L.length) (h1 : 1 ≤ s.size) (hs : s.size ≤ 1073741824) (hc : ¬ (s[0].toNat : Int) = 47) (hes : ((s.extract (s.size - 1) s.size).toList == [47]) = false)
    (hrow : NodeRow C w (.slice (some ⟨g, 0, none⟩) L.length cap) L) (hC : C ≤ w.heap.size) (hfb : FB w b (.slice (some ⟨g, 0, none⟩) L.length cap) links) :
    Calls Tryz.prog 75 #[.pointer (some ⟨b, 0, none⟩), .int .i64 (ks 0 : Nat), .string s, .bool false] w (WPost (ks (partsS s).length) w) := by
  have he := emp_no h1
  have hpl := partsS_length s
  have HROW := hide hrow
  have HFB := hide hfb
  have HKL := hide hKL
  have HCH := hide hch
  have hbl := hfb.lt
  have cc0 := hfb.c0
  have HP := hide (parts_any s w (by omega))
  have HSU := hide (wsuffix_any s w h1 (by omega) hes)
  have HN := hide (hasNodeW (some ⟨g, 0, none⟩) L.length cap (ks 0 : Nat) w (by omega) (by omega))
  have hcb : ((s[0].toNat : Int) == 47) = false := by rw [beq_eq_false_iff_ne]; exact hc
  clear hrow hfb hKL hch hc hes
  go_enter Tryz.func75, Tryz.ntmps75
  go_wp2_with fail
  refine (unhide HN).mono ?_
  rintro e ww ⟨rfl, hww⟩
  rw [hww]
  clear hww
  go_wp2_with fail
  refine (unhide HSU).mono ?_
  rintro e ww2 ⟨rfl, hww⟩
  rw [hww]
  clear hww
  go_wp2_with fail
  refine (unhide HP).mono ?_
  rintro e w1 ⟨v1, rfl, hown1, hb1⟩
  obtain ⟨ps, hps⟩ : ∃ ps, ps = partsS s := ⟨_, rfl⟩
  rw [← hps] at hpl HCH hown1
  have HPS := hide hps
  have hrow1 := StrRow.of_owns hown1
  have HB1 := hide hb1
  have hz1 := hb1.size
  rw [← hps]
  clear hps hb1
  obtain ⟨a1, cap1, rfl, hx1⟩ : ∃ a1 cap1, v1 = .slice a1 ps.length cap1 ∧ ∀ (j : Nat) (x : ByteArray), ps[j]? = some x → ∃ g1, a1 = some ⟨g1, 0, none⟩ ∧ g1 < w1.heap.size ∧ ps.length ≤ cap1 ∧ w1.cell? ⟨g1, j, none⟩ = some (.string x) := by
    rcases hrow1 with ⟨rfl, rfl⟩ | ⟨g1, cap1, rfl, hg, hc, hx⟩
    · exact ⟨none, 0, rfl, fun j x h => by simp at h⟩
    · exact ⟨_, _, rfl, fun j x h => ⟨g1, rfl, hg, hc, hx j x h⟩⟩
  have HX1 := hide hx1
  clear hown1 hrow1 hx1
  go_wp2
  go_loopw [10, 40] (fun kv iv wr => ∃ j : Nat, j ≤ ps.length ∧ iv = .int .i64 j ∧ kv = .int .i64 (ks j : Nat) ∧ Below w1.heap.size w1 wr) (fun _ iv _ => ps.length - (intOf iv).toNat)
  case atStart => exact ⟨0, Nat.zero_le _, rfl, rfl, Below.refl _ _⟩
  case round =>
    obtain ⟨j, hj, rfl, rfl, hbr⟩ := hrel
    have hzr := hbr.size
    have hbw : Below w.heap.size w wr := HB1.out.trans (hbr.mono hz1)
    have hfr := (unhide HFB).below hbw hbl
    have hrr := (unhide HROW).below (hbw.mono hC)
    have c0 := hfr.c0
    by_cases hlt : j < ps.length
    · obtain ⟨p, hp⟩ : ∃ p, ps[j]? = some p := ⟨_, List.getElem?_eq_getElem hlt⟩
      obtain ⟨g1, rfl, hg1, hcap1, hcell⟩ := HX1.out j p hp
      have cp := (hbr.cell (p := ⟨g1, j, none⟩) hg1).trans hcell
      have HON := hide (HCH.out j p hp)
      have HST := hide (wstep_any C b g cap L (ks j) (ks (j + 1)) p _ links wr HKL.out HON.out hrr (by omega) hfr)
      have HBR := hide hbr
      clear hp hcell hbr hbw hfr hrr
      by_cases hjl : j < ps.length - 1
      · have hjd : (j : Int) < (ps.length : Int) - 1 := by omega
        rw [decide_eq_true hjl] at HST
        go_wp2_with fail
        refine (unhide HST).mono ?_
        rintro e w3 ⟨rfl, hb3⟩
        have HB3 := hide (HBR.out.trans (hb3.mono hzr))
        clear hb3
        go_wp2
        go_roundw
        case rel => exact ⟨j + 1, by omega, by go_num, rfl, HB3.out⟩
        case measure => simp [intOf]; omega
      · have hjd : ¬ (j : Int) < (ps.length : Int) - 1 := by omega
        have hjd2 : decide ((j : Int) < (ps.length : Int) - 1) = false := decide_eq_false hjd
        rw [decide_eq_false hjl] at HST
        go_wp2_with fail
        refine (unhide HST).mono ?_
        rintro e w3 ⟨rfl, hb3⟩
        have HB3 := hide (HBR.out.trans (hb3.mono hzr))
        clear hb3
        go_wp2
        go_roundw
        case rel => exact ⟨j + 1, by omega, by go_num, rfl, HB3.out⟩
        case measure => simp [intOf]; omega
    · obtain rfl : j = ps.length := by omega
      have HBW := hide hbw
      clear hbr hbw hfr hrr
      go_wp2
      go_ret2
      refine ⟨?_, HBW.out⟩
      rw [← HPS.out]
      rfl
set_option maxRecDepth 100000 in
set_option maxHeartbeats 2000000 in
theorem wtfind_any (C g cap : Nat) (L : List NodeD) (ks : Nat → Nat) (s : ByteArray) (w : World) (hKL : ∀ (i : Nat) (n : NodeD), L[i]? = some n → n.kids.length ≤ 1000 ∧ ∀ c ∈ n.kids, c < L.length) (hch : ChainW L (partsS s) ks) (hk : ks 0 < L.length) (h1 : 1 ≤ s.size) (hs : s.size ≤ 1073741824) (hc : ¬ (s[0].toNat : Int) = 47) (hes : ((s.extract (s.size - 1) s.size).toList == [47]) = false)
    (hrow : NodeRow C w (.slice (some ⟨g, 0, none⟩) L.length cap) L) (hC : C ≤ w.heap.size) :
    Calls Tryz.prog 43 #[.slice (some ⟨g, 0, none⟩) L.length cap, .int .i64 (ks 0 : Nat), .string s, .bool false] w fun e w' => e = .returned (.tuple #[.int .i64 (ks (partsS s).length : Nat), .int .i64 0]) ∧ Below w.heap.size w w' := by
  have HF : ∀ W0, FB W0 w.heap.size (.slice (some ⟨g, 0, none⟩) L.length cap) 0 → Below w.heap.size w W0 → Hid (Calls Tryz.prog 75 #[.pointer (some ⟨w.heap.size, 0, none⟩), .int .i64 (ks 0 : Nat), .string s, .bool false] W0 (WPost (ks (partsS s).length) W0)) := fun W0 hfb hbl =>
    hide (wfind_any C w.heap.size g cap L ks s 0 W0 hKL hch hk h1 hs hc hes (hrow.below (hbl.mono hC)) (Nat.le_trans hC hbl.size) hfb)
  clear hrow hch hKL hes hc
  go_enter Tryz.func43, Tryz.ntmps43
  go_wp2_with fail
  obtain ⟨W0, hW0⟩ : ∃ W0, w.alloc (.cells #[.slice (some ⟨g, 0, none⟩) L.length cap, .int .i64 0] 134) = W0 := ⟨_, rfl⟩
  rw [hW0]
  have hfb : FB W0 w.heap.size (.slice (some ⟨g, 0, none⟩) L.length cap) 0 := by rw [← hW0]; exact World.alloc_heap_new w _
  have hbl : Below w.heap.size w W0 := by rw [← hW0]; exact (Below.refl _ _).alloc (Nat.le_refl _) _
  clear hW0
  refine (unhide (HF W0 hfb hbl)).mono ?_
  rintro e w1 ⟨rfl, hb1⟩
  have HB := hide (hbl.trans (hb1.mono hbl.size))
  clear HF hb1 hfb hbl
  go_wp2
  go_ret2
  exact ⟨rfl, HB.out⟩
end Go.Proofs.YtfemboojdablhaaGreatDoor.Tre
