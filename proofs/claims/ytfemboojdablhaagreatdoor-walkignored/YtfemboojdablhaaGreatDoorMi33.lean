/- Merged: TWKid, TWFind, TIs, TFi. -/
import Derived.Test.YtfemboojdablhaaGreatDoorMi29
import Derived.Test.YtfemboojdablhaaGreatDoorMi30
import Derived.Test.YtfemboojdablhaaGreatDoorMi32
import Derived.Test.YtfemboojdablhaaGreatDoorMi28
import Derived.LaidEql
import Derived.Stop.Asserts
import Derived.RowKitTokens
import Derived.Deep.QuietTactic
namespace Go.Proofs.YtfemboojdablhaaGreatDoor.Tre
open Go.RowKit
def FB (W : World) (b : Nat) (v : Value) (links : Nat) : Prop := W.heap[b]? = some (.cells #[v, .int .i64 (links : Int)] 134)
theorem FB.lt {b links : Nat} {W : World} {v : Value} (h : FB W b v links) : b < W.heap.size := (Array.getElem?_eq_some_iff.1 h).1
theorem FB.c0 {b links : Nat} {W : World} {v : Value} (h : FB W b v links) : W.cell? ⟨b, 0, none⟩ = some v := by simp [World.cell?, show W.heap[b]? = _ from h]
theorem FB.below {b links C : Nat} {W W' : World} {v : Value} (h : FB W b v links) (hb : Below C W W') (hC : b < C) : FB W' b v links := (hb.block b hC).trans h
def WPost (c : Nat) (w : World) (e : Ending) (w' : World) : Prop := e = .returned (.tuple #[.int .i64 (c : Int), .nilIface]) ∧ Below w.heap.size w w'
theorem kidOf_ge {L : List NodeD} {ks : List Nat} {name : ByteArray} {c : Nat} (h : kidOf L ks name = (c : Int)) : c ∈ ks ∧ nameIs L name c = true := by
  rcases kidOf_cases L ks name with ⟨e, _⟩ | ⟨d, e, hd, hn⟩
  · rw [h] at e; omega
  · rw [h] at e
    have : d = c := by omega
    subst this
    exact ⟨hd, hn⟩
set_option maxRecDepth 100000 in
set_option maxHeartbeats 2000000 in
theorem wkid_any (C b g cap : Nat) (L : List NodeD) (n : NodeD) (kv : Value) (name : ByteArray) (links c : Nat) (w : World) (hrow : NodeRow C w (.slice (some ⟨g, 0, none⟩) L.length cap) L) (hC : C ≤ w.heap.size) (hfb : FB w b (.slice (some ⟨g, 0, none⟩) L.length cap) links)
    (hint : IntRow C w kv n.kids) (hkids : ∀ c ∈ n.kids, c < L.length) (hkl : n.kids.length ≤ 1000) (hc : kidOf L n.kids name = (c : Int)) :
    Calls Tryz.prog 139 #[.pointer (some ⟨b, 0, none⟩), .agg #[.int .u8 n.kind, .string n.name, .int .i64 n.up, .int .i64 n.size, .int .i64 n.time, .string n.text, kv], .string name] w (WPost c w) := by
  have hbw := hfb.lt
  have HCK := hide hc
  have h1 : ∀ c, c < L.length → ∃ m, L[c]? = some m ∧ g < C ∧ w.cell? ⟨g, c * 7 + 1, none⟩ = some (.string m.name) := by
    intro c hc
    obtain ⟨m, hm⟩ : ∃ m, L[c]? = some m := ⟨_, List.getElem?_eq_getElem hc⟩
    obtain ⟨g', _, _, _, e, hg, _, ha, _⟩ := hrow.at hm
    cases e
    exact ⟨m, hm, hg, ha.2.1⟩
  obtain ⟨W0, hW0⟩ : ∃ W0, w.alloc (.cells #[.int .u8 n.kind, .string n.name, .int .i64 n.up, .int .i64 n.size, .int .i64 n.time, .string n.text, kv] 68) = W0 := ⟨_, rfl⟩
  have hbl0 : Below w.heap.size w W0 := by rw [← hW0]; exact (Below.refl _ _).alloc (Nat.le_refl _) _
  have h66 : W0.cell? ⟨w.heap.size, 6, none⟩ = some kv := by rw [← hW0, World.cell?_alloc_at _ _ _ _ rfl]; rfl
  have c0 := (hfb.below hbl0 hbw).c0
  have HH1 : Hid (∀ c, c < L.length → ∃ m, L[c]? = some m ∧ W0.cell? ⟨g, c * 7 + 1, none⟩ = some (.string m.name)) := by
    intro c hc
    obtain ⟨m, hm, hg, hn⟩ := h1 c hc
    exact ⟨m, hm, (hbl0.cell (p := ⟨g, c * 7 + 1, none⟩) (by show g < _; omega)).trans hn⟩
  have hint0 : IntRow C W0 kv n.kids := hint.below (hbl0.mono hC)
  have HW := hide hW0
  have hne : n.kids ≠ [] := fun e => by have := (kidOf_ge hc).1; rw [e] at this; cases this
  clear h1 hint hrow hfb hc
  go_enter Tryz.func139, Tryz.ntmps139
  rcases hint0 with ⟨rfl, he⟩ | ⟨g2, cap2, rfl, hg2, hcap2, hx2⟩
  · exact absurd he hne
  · clear hW0 hne
    go_wp2
    rw [unhide HW]
    have hbn : ∀ c : Nat, c < L.length → ((0 : Int) ≤ (c : Int) ∧ (c : Int) < (L.length : Int)) := fun c hc => by omega
    go_loop [13] (fun iv => ∃ j : Nat, j ≤ n.kids.length ∧ iv = .int .i64 j ∧ ∀ x ∈ n.kids.take j, nameIs L name x = false) (fun iv => n.kids.length - (intOf iv).toNat)
    case atStart => exact ⟨0, Nat.zero_le _, rfl, by simp⟩
    case round =>
      obtain ⟨j, hj, rfl, hno⟩ := hrel
      by_cases hlt : j < n.kids.length
      · obtain ⟨c', hc⟩ : ∃ c, n.kids[j]? = some c := ⟨_, List.getElem?_eq_getElem hlt⟩
        have hcl := hkids c' (List.mem_of_getElem? hc)
        have hc2 := hx2 j c' hc
        obtain ⟨m, hm, hmn⟩ := (unhide HH1) c' hcl
        have HN : Hid (nameIs L name c' = (m.name.toList == name.toList)) := by unfold Hid nameIs; rw [hm]
        have HNO : Hid (∀ x ∈ n.kids.take j, nameIs L name x = false) := hno
        have HC : Hid (n.kids[j]? = some c') := hc
        have hcl2 : (c' : Int) < (L.length : Int) := by omega
        clear hno hc hx2 hm hkids hbn
        cases hE : (m.name.toList == name.toList)
        · go_wp2
          go_round
          case rel => exact ⟨j + 1, by omega, by go_num, take_more HC.out HNO.out (by rw [HN.out, hE])⟩
          case measure => simp [intOf]; omega
        · have HEQ : Hid (c' = c) := by
            have := kidOf_hit HC.out HNO.out (by rw [HN.out, hE])
            rw [HCK.out] at this
            unfold Hid
            omega
          go_wp2
          go_ret2
          rw [← HEQ.out]
          exact ⟨rfl, hbl0⟩
      · obtain rfl : j = n.kids.length := by omega
        exfalso
        rw [List.take_length] at hno
        obtain ⟨h1, h2⟩ := kidOf_ge HCK.out
        rw [hno c h1] at h2
        cases h2
set_option maxHeartbeats 1000000 in
theorem isDirW_any (n : NodeD) (w : World) (h : dirD n = true) : Calls Tryz.prog 86 #[.int .u8 n.kind] w fun e w' => e = .returned (.bool true) ∧ w' = w := by
  have hk100 : (n.kind == 100) = true ∨ ((n.kind == 100) = false ∧ (n.kind == 120) = true) := by
    unfold dirD at h
    cases h1 : (n.kind == 100)
    · rw [h1] at h; exact .inr ⟨rfl, by simpa using h⟩
    · exact .inl rfl
  rcases hk100 with h1 | ⟨h1, h2⟩
  all_goals
    go_enter Tryz.func86, Tryz.ntmps86
    go_wp2
    go_ret
    exact ⟨rfl, rfl⟩
set_option maxHeartbeats 1000000 in
theorem hasNodeW (a : Option Addr) (l c : Nat) (i : Int) (w : World) (h0 : 0 ≤ i) (h1 : i < (l : Int)) :
    Calls Tryz.prog 116 #[.slice a l c, .int .i64 i] w fun e w' => e = .returned (.bool true) ∧ w' = w := by
  go_enter Tryz.func116, Tryz.ntmps116
  go_wp2
  go_ret
  exact ⟨rfl, rfl⟩
structure OneOn (L : List NodeD) (k : Nat) (p : ByteArray) (th : Bool) (c : Nat) : Prop where
  n : ∃ n, L[k]? = some n ∧ dirD n = true ∧ kidOf L n.kids p = (c : Int)
  c : ∃ m, L[c]? = some m ∧ (m.kind = 108 → th = false)
  p1 : (p.toList == [46]) = false
  p2 : (p.toList == [46, 46]) = false
set_option maxRecDepth 100000 in
set_option maxHeartbeats 4000000 in
theorem wstep_any (C b g cap : Nat) (L : List NodeD) (k c : Nat) (p : ByteArray) (th : Bool) (links : Nat) (w : World) (hKL : ∀ (i : Nat) (n : NodeD), L[i]? = some n → n.kids.length ≤ 1000 ∧ ∀ c ∈ n.kids, c < L.length) (hon : OneOn L k p th c) (hrow : NodeRow C w (.slice (some ⟨g, 0, none⟩) L.length cap) L) (hC : C ≤ w.heap.size) (hfb : FB w b (.slice (some ⟨g, 0, none⟩) L.length cap) links) :
    Calls Tryz.prog 119 #[.pointer (some ⟨b, 0, none⟩), .int .i64 (k : Int), .string p, .bool th] w (WPost c w) := by
  obtain ⟨⟨n, hk, hdir, hkid⟩, ⟨m, hm, hml⟩, h1, h2⟩ := hon
  have hlt := (List.getElem?_eq_some_iff.1 hk).1
  have hcl := (List.getElem?_eq_some_iff.1 hm).1
  have hkI : (k : Int) < (L.length : Int) := by omega
  have hcI : (c : Int) < (L.length : Int) := by omega
  obtain ⟨g', ka, km, kc, e, hg, hcap, ⟨n0, n1, n2, n3, n4, n5, n6⟩, hint⟩ := hrow.at hk
  cases e
  obtain ⟨hkl1, hkl2⟩ := hKL k n hk
  have c0 := hfb.c0
  obtain ⟨W0, hW0⟩ : ∃ W0, w.alloc (.cells #[.int .u8 n.kind, .string n.name, .int .i64 n.up, .int .i64 n.size, .int .i64 n.time, .string n.text, .slice ka km kc] 68) = W0 := ⟨_, rfl⟩
  have hbl0 : Below w.heap.size w W0 := by rw [← hW0]; exact (Below.refl _ _).alloc (Nat.le_refl _) _
  have hs0 := hbl0.size
  have hbx : W0.heap[w.heap.size]? = some (.cells #[.int .u8 n.kind, .string n.name, .int .i64 n.up, .int .i64 n.size, .int .i64 n.time, .string n.text, .slice ka km kc] 68) := by rw [← hW0]; exact World.alloc_heap_new w _
  have HK := hide (wkid_any C b g cap L n (.slice ka km kc) p links c W0 (hrow.below (hbl0.mono hC)) (by omega) (hfb.below hbl0 hfb.lt) (hint.below (hbl0.mono hC)) hkl2 hkl1 hkid)
  have HDI := hide (isDirW_any n W0 hdir)
  obtain ⟨b0', b1', b2', b3', b4', b5', b6'⟩ := box7 hbx
  have HROW := hide hrow
  have HFB := hide hfb
  have HB0 := hide hbl0
  have HW := hide hW0
  have HM := hide hm
  have hlw := hfb.lt
  clear hrow hfb hint hbl0 hW0 hbx hkl1 hkl2 hKL hk hm hkid
  have hml2 : (m.kind == 108) = false ∨ ((m.kind == 108) = true ∧ th = false) := by
    cases h : (m.kind == 108)
    · exact .inl rfl
    · exact .inr ⟨rfl, hml (by simpa using h)⟩
  clear hml
  rcases hml2 with h108 | ⟨h108, rfl⟩
  all_goals
    go_enter Tryz.func119, Tryz.ntmps119
    go_wp2_with fail
    rw [unhide HW]
    refine (unhide HDI).mono ?_
    rintro e ww ⟨rfl, rfl⟩
    go_wp2_with fail
    refine (unhide HK).mono ?_
    rintro e w2 ⟨rfl, hb2⟩
    have hbw2 := (unhide HB0).trans (hb2.mono hs0)
    obtain ⟨_, _, _, _, e, _, _, ⟨m0, m1, m2, m3, m4, m5, m6⟩, _⟩ := ((unhide HROW).below (hbw2.mono hC)).at (unhide HM)
    cases e
    have d0 := ((unhide HFB).below hbw2 hlw).c0
    have HB2 := hide hbw2
    clear hbw2 hb2
    go_wp2
    go_ret2
    exact ⟨rfl, unhide HB2⟩
end Go.Proofs.YtfemboojdablhaaGreatDoor.Tre
namespace Go.Proofs.YtfemboojdablhaaGreatDoor.Tre
open Go.RowKit
set_option maxHeartbeats 1000000 in
theorem wsuffix_any (a : ByteArray) (w : World) (h1 : 1 ≤ a.size) (hs : a.size ≤ 1073741824) (he : ((a.extract (a.size - 1) a.size).toList == [47]) = false) :
    Calls Tryz.prog 117 #[.string a, .string ⟨#[47]⟩] w fun e w' => e = .returned (.bool false) ∧ w' = w := by
  go_enter Tryz.func117, Tryz.ntmps117
  go_wp2
  go_ret
  exact ⟨rfl, rfl⟩
def ChainW (L : List NodeD) (ps : List ByteArray) (ks : Nat → Nat) : Prop := ∀ (j : Nat) (p : ByteArray), ps[j]? = some p → OneOn L (ks j) p (decide (j < ps.length - 1)) (ks (j + 1))
set_option maxRecDepth 100000 in
set_option maxHeartbeats 4000000 in
theorem wfind_any (C b g cap : Nat) (L : List NodeD) (ks : Nat → Nat) (s : ByteArray) (links : Nat) (w : World) (hKL : ∀ (i : Nat) (n : NodeD), L[i]? = some n → n.kids.length ≤ 1000 ∧ ∀ c ∈ n.kids, c < L.length) (hch : ChainW L (partsS s) ks) (hk : ks 0 < L.length) (h1 : 1 ≤ s.size) (hs : s.size ≤ 1073741824) (hc : ¬ (s[0].toNat : Int) = 47) (hes : ((s.extract (s.size - 1) s.size).toList == [47]) = false)
    (hrow : NodeRow C w (.slice (some ⟨g, 0, none⟩) L.length cap) L) (hC : C ≤ w.heap.size) (hfb : FB w b (.slice (some ⟨g, 0, none⟩) L.length cap) links) :
    Calls Tryz.prog 75 #[.pointer (some ⟨b, 0, none⟩), .int .i64 (ks 0 : Nat), .string s, .bool false] w (WPost (ks (partsS s).length) w) := by
  have he := emp_no h1
  have hpl := partsS_length s
  have HROW := hide hrow
  have HFB := hide hfb
  have HKL := hide hKL
  have HCH := hide hch
  have hbl := hfb.lt
  have cc0 := hfb.c0
  have HP := hide (parts_any s w (by omega))
  have HSU := hide (wsuffix_any s w h1 (by omega) hes)
  have HN := hide (hasNodeW (some ⟨g, 0, none⟩) L.length cap (ks 0 : Nat) w (by omega) (by omega))
  have hcb : ((s[0].toNat : Int) == 47) = false := by rw [beq_eq_false_iff_ne]; exact hc
  clear hrow hfb hKL hch hc hes
  go_enter Tryz.func75, Tryz.ntmps75
  go_wp2_with fail
  refine (unhide HN).mono ?_
  rintro e ww ⟨rfl, hww⟩
  rw [hww]
  clear hww
  go_wp2_with fail
  refine (unhide HSU).mono ?_
  rintro e ww2 ⟨rfl, hww⟩
  rw [hww]
  clear hww
  go_wp2_with fail
  refine (unhide HP).mono ?_
  rintro e w1 ⟨v1, rfl, hown1, hb1⟩
  obtain ⟨ps, hps⟩ : ∃ ps, ps = partsS s := ⟨_, rfl⟩
  rw [← hps] at hpl HCH hown1
  have HPS := hide hps
  have hrow1 := StrRow.of_owns hown1
  have HB1 := hide hb1
  have hz1 := hb1.size
  rw [← hps]
  clear hps hb1
  obtain ⟨a1, cap1, rfl, hx1⟩ : ∃ a1 cap1, v1 = .slice a1 ps.length cap1 ∧ ∀ (j : Nat) (x : ByteArray), ps[j]? = some x → ∃ g1, a1 = some ⟨g1, 0, none⟩ ∧ g1 < w1.heap.size ∧ ps.length ≤ cap1 ∧ w1.cell? ⟨g1, j, none⟩ = some (.string x) := by
    rcases hrow1 with ⟨rfl, rfl⟩ | ⟨g1, cap1, rfl, hg, hc, hx⟩
    · exact ⟨none, 0, rfl, fun j x h => by simp at h⟩
    · exact ⟨_, _, rfl, fun j x h => ⟨g1, rfl, hg, hc, hx j x h⟩⟩
  have HX1 := hide hx1
  clear hown1 hrow1 hx1
  go_wp2
  go_loopw [10, 40] (fun kv iv wr => ∃ j : Nat, j ≤ ps.length ∧ iv = .int .i64 j ∧ kv = .int .i64 (ks j : Nat) ∧ Below w1.heap.size w1 wr) (fun _ iv _ => ps.length - (intOf iv).toNat)
  case atStart => exact ⟨0, Nat.zero_le _, rfl, rfl, Below.refl _ _⟩
  case round =>
    obtain ⟨j, hj, rfl, rfl, hbr⟩ := hrel
    have hzr := hbr.size
    have hbw : Below w.heap.size w wr := HB1.out.trans (hbr.mono hz1)
    have hfr := (unhide HFB).below hbw hbl
    have hrr := (unhide HROW).below (hbw.mono hC)
    have c0 := hfr.c0
    by_cases hlt : j < ps.length
    · obtain ⟨p, hp⟩ : ∃ p, ps[j]? = some p := ⟨_, List.getElem?_eq_getElem hlt⟩
      obtain ⟨g1, rfl, hg1, hcap1, hcell⟩ := HX1.out j p hp
      have cp := (hbr.cell (p := ⟨g1, j, none⟩) hg1).trans hcell
      have HON := hide (HCH.out j p hp)
      have HST := hide (wstep_any C b g cap L (ks j) (ks (j + 1)) p _ links wr HKL.out HON.out hrr (by omega) hfr)
      have HBR := hide hbr
      clear hp hcell hbr hbw hfr hrr
      by_cases hjl : j < ps.length - 1
      · have hjd : (j : Int) < (ps.length : Int) - 1 := by omega
        rw [decide_eq_true hjl] at HST
        go_wp2_with fail
        refine (unhide HST).mono ?_
        rintro e w3 ⟨rfl, hb3⟩
        have HB3 := hide (HBR.out.trans (hb3.mono hzr))
        clear hb3
        go_wp2
        go_roundw
        case rel => exact ⟨j + 1, by omega, by go_num, rfl, HB3.out⟩
        case measure => simp [intOf]; omega
      · have hjd : ¬ (j : Int) < (ps.length : Int) - 1 := by omega
        have hjd2 : decide ((j : Int) < (ps.length : Int) - 1) = false := decide_eq_false hjd
        rw [decide_eq_false hjl] at HST
        go_wp2_with fail
        refine (unhide HST).mono ?_
        rintro e w3 ⟨rfl, hb3⟩
        have HB3 := hide (HBR.out.trans (hb3.mono hzr))
        clear hb3
        go_wp2
        go_roundw
        case rel => exact ⟨j + 1, by omega, by go_num, rfl, HB3.out⟩
        case measure => simp [intOf]; omega
    · obtain rfl : j = ps.length := by omega
      have HBW := hide hbw
      clear hbr hbw hfr hrr
      go_wp2
      go_ret2
      refine ⟨?_, HBW.out⟩
      rw [← HPS.out]
      rfl
set_option maxRecDepth 100000 in
set_option maxHeartbeats 2000000 in
theorem wtfind_any (C g cap : Nat) (L : List NodeD) (ks : Nat → Nat) (s : ByteArray) (w : World) (hKL : ∀ (i : Nat) (n : NodeD), L[i]? = some n → n.kids.length ≤ 1000 ∧ ∀ c ∈ n.kids, c < L.length) (hch : ChainW L (partsS s) ks) (hk : ks 0 < L.length) (h1 : 1 ≤ s.size) (hs : s.size ≤ 1073741824) (hc : ¬ (s[0].toNat : Int) = 47) (hes : ((s.extract (s.size - 1) s.size).toList == [47]) = false)
    (hrow : NodeRow C w (.slice (some ⟨g, 0, none⟩) L.length cap) L) (hC : C ≤ w.heap.size) :
    Calls Tryz.prog 43 #[.slice (some ⟨g, 0, none⟩) L.length cap, .int .i64 (ks 0 : Nat), .string s, .bool false] w fun e w' => e = .returned (.tuple #[.int .i64 (ks (partsS s).length : Nat), .int .i64 0]) ∧ Below w.heap.size w w' := by
  have HF : ∀ W0, FB W0 w.heap.size (.slice (some ⟨g, 0, none⟩) L.length cap) 0 → Below w.heap.size w W0 → Hid (Calls Tryz.prog 75 #[.pointer (some ⟨w.heap.size, 0, none⟩), .int .i64 (ks 0 : Nat), .string s, .bool false] W0 (WPost (ks (partsS s).length) W0)) := fun W0 hfb hbl =>
    hide (wfind_any C w.heap.size g cap L ks s 0 W0 hKL hch hk h1 hs hc hes (hrow.below (hbl.mono hC)) (Nat.le_trans hC hbl.size) hfb)
  clear hrow hch hKL hes hc
  go_enter Tryz.func43, Tryz.ntmps43
  go_wp2_with fail
  obtain ⟨W0, hW0⟩ : ∃ W0, w.alloc (.cells #[.slice (some ⟨g, 0, none⟩) L.length cap, .int .i64 0] 134) = W0 := ⟨_, rfl⟩
  rw [hW0]
  have hfb : FB W0 w.heap.size (.slice (some ⟨g, 0, none⟩) L.length cap) 0 := by rw [← hW0]; exact World.alloc_heap_new w _
  have hbl : Below w.heap.size w W0 := by rw [← hW0]; exact (Below.refl _ _).alloc (Nat.le_refl _) _
  clear hW0
  refine (unhide (HF W0 hfb hbl)).mono ?_
  rintro e w1 ⟨rfl, hb1⟩
  have HB := hide (hbl.trans (hb1.mono hbl.size))
  clear HF hb1 hfb hbl
  go_wp2
  go_ret2
  exact ⟨rfl, HB.out⟩
end Go.Proofs.YtfemboojdablhaaGreatDoor.Tre
namespace Go.Proofs.YtfemboojdablhaaGreatDoor.Tre
open Go.RowKit Go.Extern.Stop Go.Stop Go.Extern
theorem Tryz.isTypeOf (v : Value) (w : World) : (Extern.ReflectliteType.typeOf #[.iface 398 v]).run Tryz.prog w = .ok (.iface 170 (.agg #[.pointer (some ⟨14, 398, none⟩)])) w := by kernel_rfl
def cmpE : Array Value → Sem Value := Extern.ReflectliteType.method fun t => do Extern.Rtype.noPackHeld "Comparable" t; pure (.bool (← typeInfo t).comparable)
theorem Tryz.isComparable (w : World) : (cmpE #[.agg #[.pointer (some ⟨14, 398, none⟩)]]).run Tryz.prog w = .ok (.bool true) w := by kernel_rfl
theorem Tryz.isMethodComparable (v : Value) (w : World) : (Go.method 531 170 v "Comparable").run Tryz.prog w = .ok (337, v) w := by kernel_rfl
theorem Tryz.isComp : (Tryz.prog.info? 398).map (·.comparable) = some true := by kernel_rfl
theorem Tryz.isSize : (Tryz.prog.info? 420).map (·.size) = some 1 := by kernel_rfl
theorem Tryz.noIsE (v : Value) (xT : TypeId) (w : World) : (Instr.typeAssert (.iface 398 v) xT 172 true).run Tryz.prog w = .ok (.tuple #[.nilIface, .bool false]) w := run_typeAssert_lacksB Tryz.underlying172 (by kernel_rfl) (by kernel_rfl) v xT w
theorem Tryz.noUnwrapE (v : Value) (xT : TypeId) (w : World) : (Instr.typeAssert (.iface 398 v) xT 175 true).run Tryz.prog w = .ok (.tuple #[.nilIface, .bool false]) w := run_typeAssert_lacksB Tryz.underlying175 (by kernel_rfl) (by kernel_rfl) v xT w
theorem Tryz.noUnwrapsE (v : Value) (xT : TypeId) (w : World) : (Instr.typeAssert (.iface 398 v) xT 177 true).run Tryz.prog w = .ok (.tuple #[.nilIface, .bool false]) w := run_typeAssert_lacksB Tryz.underlying177 (by kernel_rfl) (by kernel_rfl) v xT w
set_option maxRecDepth 100000 in
set_option maxHeartbeats 1000000 in
theorem is_same (a : Addr) (w : World) :
    Calls Tryz.prog 42 #[.iface 398 (.pointer (some a)), .iface 398 (.pointer (some a))] w fun e w' => e = .returned (.bool true) ∧ w' = w := by
  obtain ⟨i, hi, hcmp⟩ := Option.map_eq_some_iff.1 Tryz.isComp
  obtain ⟨j, hj, hjs⟩ := Option.map_eq_some_iff.1 Tryz.isSize
  have h8 := @run_callFunc_extern Tryz.prog 73 _ Extern.ReflectliteType.typeOf Tryz.func73 (by kernel_rfl) (by kernel_rfl) (by kernel_rfl) (by kernel_rfl)
  have h32 := @run_callFunc_extern Tryz.prog 337 _ cmpE Tryz.func337 (by kernel_rfl) (by kernel_rfl) (by kernel_rfl) (by kernel_rfl)
  have tT := Tryz.isTypeOf
  have cT := Tryz.isComparable
  have mR := Tryz.isMethodComparable
  have heq := run_eql_iface_ptr_same (P := Tryz.prog) w a Tryz.underlying99 Tryz.underlying398 hi hcmp hj
  go_enter Tryz.func42, Tryz.ntmps42
  go_wp2
  refine wp_loop_rounds 1 ?_
  rw [rounds_succ]
  go_wp2
  go_ret
  exact ⟨rfl, rfl⟩
set_option maxRecDepth 100000 in
set_option maxHeartbeats 1000000 in
theorem is_other (a b : Addr) (ca cb : Array Value) (ta tb : TypeId) (w : World) (hne : a ≠ b) (ha : w.heap[a.block]? = some (.cells ca ta (0, 0))) (hb : w.heap[b.block]? = some (.cells cb tb (0, 0))) :
    Calls Tryz.prog 42 #[.iface 398 (.pointer (some a)), .iface 398 (.pointer (some b))] w fun e w' => e = .returned (.bool false) ∧ w' = w := by
  obtain ⟨i, hi, hcmp⟩ := Option.map_eq_some_iff.1 Tryz.isComp
  obtain ⟨j, hj, hjs⟩ := Option.map_eq_some_iff.1 Tryz.isSize
  have h8 := @run_callFunc_extern Tryz.prog 73 _ Extern.ReflectliteType.typeOf Tryz.func73 (by kernel_rfl) (by kernel_rfl) (by kernel_rfl) (by kernel_rfl)
  have h32 := @run_callFunc_extern Tryz.prog 337 _ cmpE Tryz.func337 (by kernel_rfl) (by kernel_rfl) (by kernel_rfl) (by kernel_rfl)
  have tT := Tryz.isTypeOf
  have cT := Tryz.isComparable
  have mR := Tryz.isMethodComparable
  have nE := Tryz.noIsE
  have uE := Tryz.noUnwrapE
  have vE := Tryz.noUnwrapsE
  have heq := run_eql_iface_ptr_other (P := Tryz.prog) w Tryz.underlying99 Tryz.underlying398 hi hcmp hj (by rw [hjs]; decide) hne ha hb
  go_enter Tryz.func42, Tryz.ntmps42
  go_wp2
  refine wp_loop_rounds 1 ?_
  rw [rounds_succ]
  go_wp2
  go_ret
  exact ⟨rfl, rfl⟩
end Go.Proofs.YtfemboojdablhaaGreatDoor.Tre
namespace Go.Proofs.YtfemboojdablhaaGreatDoor.Tre
open Go.RowKit
def Pointee (C : Nat) (W : World) (a : Addr) : Prop := a.block < C ∧ ∃ c t, W.heap[a.block]? = some (.cells c t (0, 0))
structure Sn (C : Nat) (a6 a2 a4 : Addr) (W : World) : Prop where
  c0 : W.cell? ⟨2, 0, none⟩ = some (.iface 398 (.pointer (some a6)))
  c2 : W.cell? ⟨4, 0, none⟩ = some (.iface 398 (.pointer (some a2)))
  c3 : W.cell? ⟨5, 0, none⟩ = some (.iface 398 (.pointer (some a4)))
  p6 : Pointee C W a6
  p2 : Pointee C W a2
  p4 : Pointee C W a4
  n62 : a6 ≠ a2
  n64 : a6 ≠ a4
theorem Pointee.below {C : Nat} {W W' : World} {a : Addr} (h : Pointee C W a) (hb : Below C W W') : Pointee C W' a := by
  obtain ⟨h1, c, t, h2⟩ := h
  exact ⟨h1, c, t, (hb.block a.block h1).trans h2⟩
theorem Sn.below {C : Nat} {a6 a2 a4 : Addr} {W W' : World} (h : Sn C a6 a2 a4 W) (hb : Below C W W') (h10 : 14 ≤ C) : Sn C a6 a2 a4 W' :=
  ⟨(hb.cell (p := ⟨2, 0, none⟩) (by show 2 < C; omega)).trans h.c0, (hb.cell (p := ⟨4, 0, none⟩) (by show 4 < C; omega)).trans h.c2, (hb.cell (p := ⟨5, 0, none⟩) (by show 5 < C; omega)).trans h.c3, h.p6.below hb, h.p2.below hb, h.p4.below hb, h.n62, h.n64⟩
theorem is_no {C : Nat} {W : World} {a b : Addr} (ha : Pointee C W a) (hb : Pointee C W b) (hne : a ≠ b) : Calls Tryz.prog 42 #[.iface 398 (.pointer (some a)), .iface 398 (.pointer (some b))] W fun e w' => e = .returned (.bool false) ∧ w' = W := by
  obtain ⟨_, ca, ta, ha⟩ := ha
  obtain ⟨_, cb, tb, hb⟩ := hb
  exact is_other a b ca cb ta tb W hne ha hb
set_option maxRecDepth 100000 in
set_option maxHeartbeats 2000000 in
theorem errno6 (C : Nat) (a6 a2 a4 : Addr) (w : World) (h : Sn C a6 a2 a4 w) : Calls Tryz.prog 76 #[.iface 398 (.pointer (some a6))] w fun e w' => e = .returned (.int .i64 6) ∧ w' = w := by
  have c0 := h.c0
  have c2 := h.c2
  have c3 := h.c3
  have H1 := hide (is_no h.p6 h.p2 h.n62)
  have H2 := hide (is_no h.p6 h.p4 h.n64)
  have H3 := hide (is_same a6 w)
  clear h
  go_enter Tryz.func76, Tryz.ntmps76
  go_wp2_with fail
  refine (unhide H1).mono ?_
  rintro e ww ⟨rfl, hww⟩
  rw [hww]; clear hww
  go_wp2_with fail
  refine (unhide H2).mono ?_
  rintro e ww ⟨rfl, hww⟩
  rw [hww]; clear hww
  go_wp2_with fail
  refine (unhide H3).mono ?_
  rintro e ww ⟨rfl, hww⟩
  rw [hww]; clear hww
  go_wp2
  go_ret
  exact ⟨rfl, rfl⟩
def NPost (a6 : Addr) (w : World) (e : Ending) (w' : World) : Prop := e = .returned (.tuple #[.int .i64 0, .iface 398 (.pointer (some a6))]) ∧ Below w.heap.size w w'
set_option maxRecDepth 100000 in
set_option maxHeartbeats 2000000 in
theorem wkid_none (a6 a2 a4 : Addr) (C b g cap : Nat) (L : List NodeD) (n : NodeD) (kv : Value) (name : ByteArray) (links : Nat) (w : World) (hrow : NodeRow C w (.slice (some ⟨g, 0, none⟩) L.length cap) L) (hC : C ≤ w.heap.size) (hfb : FB w b (.slice (some ⟨g, 0, none⟩) L.length cap) links)
    (hint : IntRow C w kv n.kids) (hkids : ∀ c ∈ n.kids, c < L.length) (hkl : n.kids.length ≤ 1000) (hc : kidOf L n.kids name = -1) (hS : Sn C a6 a2 a4 w) :
    Calls Tryz.prog 139 #[.pointer (some ⟨b, 0, none⟩), .agg #[.int .u8 n.kind, .string n.name, .int .i64 n.up, .int .i64 n.size, .int .i64 n.time, .string n.text, kv], .string name] w (NPost a6 w) := by
  have hbw := hfb.lt
  have HCK := hide hc
  have h1 : ∀ c, c < L.length → ∃ m, L[c]? = some m ∧ g < C ∧ w.cell? ⟨g, c * 7 + 1, none⟩ = some (.string m.name) := by
    intro c hc
    obtain ⟨m, hm⟩ : ∃ m, L[c]? = some m := ⟨_, List.getElem?_eq_getElem hc⟩
    obtain ⟨g', _, _, _, e, hg, _, ha, _⟩ := hrow.at hm
    cases e
    exact ⟨m, hm, hg, ha.2.1⟩
  obtain ⟨W0, hW0⟩ : ∃ W0, w.alloc (.cells #[.int .u8 n.kind, .string n.name, .int .i64 n.up, .int .i64 n.size, .int .i64 n.time, .string n.text, kv] 68) = W0 := ⟨_, rfl⟩
  have hbl0 : Below w.heap.size w W0 := by rw [← hW0]; exact (Below.refl _ _).alloc (Nat.le_refl _) _
  have h66 : W0.cell? ⟨w.heap.size, 6, none⟩ = some kv := by rw [← hW0, World.cell?_alloc_at _ _ _ _ rfl]; rfl
  have c0 := (hfb.below hbl0 hbw).c0
  have HH1 : Hid (∀ c, c < L.length → ∃ m, L[c]? = some m ∧ W0.cell? ⟨g, c * 7 + 1, none⟩ = some (.string m.name)) := by
    intro c hc
    obtain ⟨m, hm, hg, hn⟩ := h1 c hc
    exact ⟨m, hm, (hbl0.cell (p := ⟨g, c * 7 + 1, none⟩) (by show g < _; omega)).trans hn⟩
  have hint0 : IntRow C W0 kv n.kids := hint.below (hbl0.mono hC)
  have HW := hide hW0
  have e0 := (hbl0.cell (p := ⟨2, 0, none⟩) (World.block_lt_of_cell? _ _ hS.c0)).trans hS.c0
  clear h1 hint hrow hfb hc hS
  go_enter Tryz.func139, Tryz.ntmps139
  rcases hint0 with ⟨rfl, he⟩ | ⟨g2, cap2, rfl, hg2, hcap2, hx2⟩
  · clear hW0
    go_wp2
    rw [unhide HW]
    refine wp_loop_rounds 1 ?_
    rw [rounds_succ]
    go_wp2
    go_quiet (fail)
    go_wp2
    go_ret2
    exact ⟨rfl, ⟨hbl0.os, hbl0.tape, hbl0.output, hbl0.size, hbl0.block⟩⟩
  · clear hW0
    go_wp2
    rw [unhide HW]
    have hbn : ∀ c : Nat, c < L.length → ((0 : Int) ≤ (c : Int) ∧ (c : Int) < (L.length : Int)) := fun c hc => by omega
    go_loop [13] (fun iv => ∃ j : Nat, j ≤ n.kids.length ∧ iv = .int .i64 j ∧ ∀ x ∈ n.kids.take j, nameIs L name x = false) (fun iv => n.kids.length - (intOf iv).toNat)
    case atStart => exact ⟨0, Nat.zero_le _, rfl, by simp⟩
    case round =>
      obtain ⟨j, hj, rfl, hno⟩ := hrel
      by_cases hlt : j < n.kids.length
      · obtain ⟨c', hc⟩ : ∃ c, n.kids[j]? = some c := ⟨_, List.getElem?_eq_getElem hlt⟩
        have hcl := hkids c' (List.mem_of_getElem? hc)
        have hc2 := hx2 j c' hc
        obtain ⟨m, hm, hmn⟩ := (unhide HH1) c' hcl
        have HN : Hid (nameIs L name c' = (m.name.toList == name.toList)) := by unfold Hid nameIs; rw [hm]
        have HNO : Hid (∀ x ∈ n.kids.take j, nameIs L name x = false) := hno
        have HC : Hid (n.kids[j]? = some c') := hc
        have hcl2 : (c' : Int) < (L.length : Int) := by omega
        clear hno hc hx2 hm hkids hbn
        cases hE : (m.name.toList == name.toList)
        · go_wp2
          go_round
          case rel => exact ⟨j + 1, by omega, by go_num, take_more HC.out HNO.out (by rw [HN.out, hE])⟩
          case measure => simp [intOf]; omega
        · exfalso
          have := kidOf_hit HC.out HNO.out (by rw [HN.out, hE])
          rw [HCK.out] at this
          omega
      · obtain rfl : j = n.kids.length := by omega
        clear hno
        go_wp2
        go_quiet (fail)
        go_wp2
        go_ret2
        exact ⟨rfl, ⟨hbl0.os, hbl0.tape, hbl0.output, hbl0.size, hbl0.block⟩⟩
set_option maxRecDepth 100000 in
set_option maxHeartbeats 4000000 in
theorem wstep_none (a6 a2 a4 : Addr) (C b g cap : Nat) (L : List NodeD) (k : Nat) (p : ByteArray) (th : Bool) (links : Nat) (w : World) (hKL : ∀ (i : Nat) (n : NodeD), L[i]? = some n → n.kids.length ≤ 1000 ∧ ∀ c ∈ n.kids, c < L.length) (n : NodeD) (hk : L[k]? = some n) (hdir : dirD n = true) (hkid : kidOf L n.kids p = -1) (h1 : (p.toList == [46]) = false) (h2 : (p.toList == [46, 46]) = false) (hS : Sn C a6 a2 a4 w) (h10 : 14 ≤ C) (hrow : NodeRow C w (.slice (some ⟨g, 0, none⟩) L.length cap) L) (hC : C ≤ w.heap.size) (hfb : FB w b (.slice (some ⟨g, 0, none⟩) L.length cap) links) :
    Calls Tryz.prog 119 #[.pointer (some ⟨b, 0, none⟩), .int .i64 (k : Int), .string p, .bool th] w (NPost a6 w) := by
  have hlt := (List.getElem?_eq_some_iff.1 hk).1
  have hkI : (k : Int) < (L.length : Int) := by omega
  obtain ⟨g', ka, km, kc, e, hg, hcap, ⟨n0, n1, n2, n3, n4, n5, n6⟩, hint⟩ := hrow.at hk
  cases e
  obtain ⟨hkl1, hkl2⟩ := hKL k n hk
  have c0 := hfb.c0
  obtain ⟨W0, hW0⟩ : ∃ W0, w.alloc (.cells #[.int .u8 n.kind, .string n.name, .int .i64 n.up, .int .i64 n.size, .int .i64 n.time, .string n.text, .slice ka km kc] 68) = W0 := ⟨_, rfl⟩
  have hbl0 : Below w.heap.size w W0 := by rw [← hW0]; exact (Below.refl _ _).alloc (Nat.le_refl _) _
  have hs0 := hbl0.size
  have hbx : W0.heap[w.heap.size]? = some (.cells #[.int .u8 n.kind, .string n.name, .int .i64 n.up, .int .i64 n.size, .int .i64 n.time, .string n.text, .slice ka km kc] 68) := by rw [← hW0]; exact World.alloc_heap_new w _
  have HK := hide (wkid_none a6 a2 a4 C b g cap L n (.slice ka km kc) p links W0 (hrow.below (hbl0.mono hC)) (by omega) (hfb.below hbl0 hfb.lt) (hint.below (hbl0.mono hC)) hkl2 hkl1 hkid (hS.below (hbl0.mono hC) h10))
  have HDI := hide (isDirW_any n W0 hdir)
  obtain ⟨b0', b1', b2', b3', b4', b5', b6'⟩ := box7 hbx
  have HROW := hide hrow
  have HFB := hide hfb
  have HB0 := hide hbl0
  have HW := hide hW0
  have hlw := hfb.lt
  clear hrow hfb hint hbl0 hW0 hbx hkl1 hkl2 hKL hk hkid hS
  clear HROW HFB
  go_enter Tryz.func119, Tryz.ntmps119
  go_wp2_with fail
  rw [unhide HW]
  refine (unhide HDI).mono ?_
  rintro e ww ⟨rfl, hww⟩
  rw [hww]; clear hww
  go_wp2_with fail
  refine (unhide HK).mono ?_
  rintro e w2 ⟨rfl, hb2⟩
  have HB2 := hide ((unhide HB0).trans (hb2.mono hs0))
  clear hb2
  go_wp2
  go_ret2
  exact ⟨rfl, unhide HB2⟩
def ignS : ByteArray := ⟨#[46, 105, 103, 110, 111, 114, 101]⟩
theorem parts_ign : partsS ignS = [ignS] := by kernel_rfl
set_option maxRecDepth 100000 in
set_option maxHeartbeats 4000000 in
theorem wfind_none (a6 a2 a4 : Addr) (C b g cap : Nat) (L : List NodeD) (k : Nat) (links : Nat) (w : World) (hKL : ∀ (i : Nat) (n : NodeD), L[i]? = some n → n.kids.length ≤ 1000 ∧ ∀ c ∈ n.kids, c < L.length) (n : NodeD) (hk : L[k]? = some n) (hdir : dirD n = true) (hkid : kidOf L n.kids ignS = -1) (hS : Sn C a6 a2 a4 w) (h10 : 14 ≤ C)
    (hrow : NodeRow C w (.slice (some ⟨g, 0, none⟩) L.length cap) L) (hC : C ≤ w.heap.size) (hfb : FB w b (.slice (some ⟨g, 0, none⟩) L.length cap) links) :
    Calls Tryz.prog 75 #[.pointer (some ⟨b, 0, none⟩), .int .i64 (k : Int), .string ignS, .bool false] w (NPost a6 w) := by
  have hlt := (List.getElem?_eq_some_iff.1 hk).1
  have h1 : 1 ≤ ignS.size := by decide
  have he := emp_no h1
  have HROW := hide hrow
  have HFB := hide hfb
  have HKL := hide hKL
  have hbl := hfb.lt
  have cc0 := hfb.c0
  have hP := parts_any ignS w (by decide)
  rw [parts_ign] at hP
  have HP := hide hP
  have HSU := hide (wsuffix_any ignS w h1 (by decide) (by kernel_rfl))
  have HN := hide (hasNodeW (some ⟨g, 0, none⟩) L.length cap (k : Int) w (by omega) (by omega))
  have HST : Hid (∀ w1, Below w.heap.size w w1 → Calls Tryz.prog 119 #[.pointer (some ⟨b, 0, none⟩), .int .i64 (k : Int), .string ignS, .bool false] w1 (NPost a6 w1)) := fun w1 hb1 =>
    wstep_none a6 a2 a4 C b g cap L k ignS false links w1 hKL n hk hdir hkid (by kernel_rfl) (by kernel_rfl) (hS.below (hb1.mono hC) h10) h10 (hrow.below (hb1.mono hC)) (Nat.le_trans hC hb1.size) (hfb.below hb1 hbl)
  clear hrow hfb hKL hP hS hkid hk hdir
  obtain ⟨s, hs⟩ : ∃ s, ignS = s := ⟨_, rfl⟩
  have hs7 : s.size = 7 := by rw [← hs]; rfl
  rw [hs] at HP HSU HST he ⊢
  have hcb' : ((s[0].toNat : Int) == 47) = false := by subst hs; rfl
  clear hs
  go_enter Tryz.func75, Tryz.ntmps75
  go_wp2_with fail
  refine (unhide HN).mono ?_
  rintro e ww ⟨rfl, hww⟩
  rw [hww]
  clear hww
  go_wp2_with fail
  refine (unhide HSU).mono ?_
  rintro e ww2 ⟨rfl, hww⟩
  rw [hww]
  clear hww
  go_wp2_with fail
  refine (unhide HP).mono ?_
  rintro e w1 ⟨v1, rfl, hown1, hb1⟩
  have hrow1 := StrRow.of_owns hown1
  have HB1 := hide hb1
  have hfb1 := HFB.out.below hb1 hbl
  have c1 := hfb1.c0
  have hst := HST.out w1 hb1
  rcases hrow1 with ⟨_, h0⟩ | ⟨g1, cap1, rfl, hg, hcp, hx⟩
  · cases h0
  · have hcell := hx 0 s rfl
    clear hx hown1 hfb1 hb1 HFB HST HROW
    go_wp2
    refine wp_loop_rounds 1 ?_
    rw [rounds_succ]
    go_wp2_with fail
    refine hst.mono ?_
    rintro e w2 ⟨rfl, hb2⟩
    have HB2 := hide (HB1.out.trans (hb2.mono HB1.out.size))
    clear hb2
    go_wp2
    go_ret2
    exact ⟨rfl, HB2.out⟩
set_option maxRecDepth 100000 in
set_option maxHeartbeats 2000000 in
theorem wtfind_none (a6 a2 a4 : Addr) (C g cap : Nat) (L : List NodeD) (k : Nat) (w : World) (hKL : ∀ (i : Nat) (n : NodeD), L[i]? = some n → n.kids.length ≤ 1000 ∧ ∀ c ∈ n.kids, c < L.length) (n : NodeD) (hk : L[k]? = some n) (hdir : dirD n = true) (hkid : kidOf L n.kids ignS = -1) (hS : Sn C a6 a2 a4 w) (h10 : 14 ≤ C)
    (hrow : NodeRow C w (.slice (some ⟨g, 0, none⟩) L.length cap) L) (hC : C ≤ w.heap.size) :
    Calls Tryz.prog 43 #[.slice (some ⟨g, 0, none⟩) L.length cap, .int .i64 (k : Int), .string ignS, .bool false] w fun e w' => e = .returned (.tuple #[.int .i64 0, .int .i64 6]) ∧ Below w.heap.size w w' := by
  have HF : ∀ W0, FB W0 w.heap.size (.slice (some ⟨g, 0, none⟩) L.length cap) 0 → Below w.heap.size w W0 → Hid (Calls Tryz.prog 75 #[.pointer (some ⟨w.heap.size, 0, none⟩), .int .i64 (k : Int), .string ignS, .bool false] W0 (NPost a6 W0)) := fun W0 hfb hbl =>
    hide (wfind_none a6 a2 a4 C w.heap.size g cap L k 0 W0 hKL n hk hdir hkid (hS.below (hbl.mono hC) h10) h10 (hrow.below (hbl.mono hC)) (Nat.le_trans hC hbl.size) hfb)
  have HS := hide hS
  clear hrow hKL hk hdir hkid hS
  obtain ⟨s, hs⟩ : ∃ s, ignS = s := ⟨_, rfl⟩
  rw [hs] at HF ⊢
  clear hs
  go_enter Tryz.func43, Tryz.ntmps43
  go_wp2_with fail
  obtain ⟨W0, hW0⟩ : ∃ W0, w.alloc (.cells #[.slice (some ⟨g, 0, none⟩) L.length cap, .int .i64 0] 134) = W0 := ⟨_, rfl⟩
  rw [hW0]
  have hfb : FB W0 w.heap.size (.slice (some ⟨g, 0, none⟩) L.length cap) 0 := by rw [← hW0]; exact World.alloc_heap_new w _
  have hbl : Below w.heap.size w W0 := by rw [← hW0]; exact (Below.refl _ _).alloc (Nat.le_refl _) _
  clear hW0
  refine (unhide (HF W0 hfb hbl)).mono ?_
  rintro e w1 ⟨rfl, hb1⟩
  have hb2 := hbl.trans (hb1.mono hbl.size)
  have HE := hide (errno6 C a6 a2 a4 w1 (HS.out.below (hb2.mono hC) h10))
  have HB := hide hb2
  clear HF hb1 hfb hbl hb2
  go_wp2_with fail
  refine (unhide HE).mono ?_
  rintro e w2 ⟨rfl, hw2⟩
  rw [hw2]; clear hw2
  go_wp2
  go_ret2
  exact ⟨rfl, HB.out⟩
end Go.Proofs.YtfemboojdablhaaGreatDoor.Tre
