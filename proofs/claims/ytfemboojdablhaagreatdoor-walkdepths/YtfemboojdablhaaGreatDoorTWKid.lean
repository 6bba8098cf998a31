/- The program's finder along a way that is there: kid and step. -/
import Derived.Test.YtfemboojdablhaaGreatDoorTGNodes
import Derived.Test.YtfemboojdablhaaGreatDoorTPut
import Derived.Test.YtfemboojdablhaaGreatDoorTSame
namespace Go.Proofs.YtfemboojdablhaaGreatDoor.Tre
open Go.RowKit

/-- A finder: the nodes, and how many links were gone through. -/
def FB (W : World) (b : Nat) (v : Value) (links : Nat) : Prop := W.heap[b]? = some (.cells #[v, .int .i64 (links : Int)] 134)
theorem FB.lt {b links : Nat} {W : World} {v : Value} (h : FB W b v links) : b < W.heap.size := (Array.getElem?_eq_some_iff.1 h).1
theorem FB.c0 {b links : Nat} {W : World} {v : Value} (h : FB W b v links) : W.cell? ⟨b, 0, none⟩ = some v := by simp [World.cell?, show W.heap[b]? = _ from h]
theorem FB.below {b links C : Nat} {W W' : World} {v : Value} (h : FB W b v links) (hb : Below C W W') (hC : b < C) : FB W' b v links := (hb.block b hC).trans h
def WPost (c : Nat) (w : World) (e : Ending) (w' : World) : Prop := e = .returned (.tuple #[.int .i64 (c : Int), .nilIface]) ∧ Below w.heap.size w w'
theorem kidOf_ge {L : List NodeD} {ks : List Nat} {name : ByteArray} {c : Nat} (h : kidOf L ks name = (c : Int)) : c ∈ ks ∧ nameIs L name c = true := by
  rcases kidOf_cases L ks name with ⟨e, _⟩ | ⟨d, e, hd, hn⟩
  · rw [h] at e; omega
  · rw [h] at e
    have : d = c := by omega
    subst this
    exact ⟨hd, hn⟩

set_option maxRecDepth 100000 in
set_option maxHeartbeats 2000000 in
theorem wkid_any (C b g cap : Nat) (L : List NodeD) (n : NodeD) (kv : Value) (name : ByteArray) (links c : Nat) (w : World) (hrow : NodeRow C w (.slice (some ⟨g, 0, none⟩) L.length cap) L) (hC : C ≤ w.heap.size) (hfb : FB w b (.slice (some ⟨g, 0, none⟩) L.length cap) links)
    (hint : IntRow C w kv n.kids) (hkids : ∀ c ∈ n.kids, c < L.length) (hkl : n.kids.length ≤ 1000) (hc : kidOf L n.kids name = (c : Int)) :
    Calls Tryz.prog 139 #[.pointer (some ⟨b, 0, none⟩), .agg #[.int .u8 n.kind, .string n.name, .int .i64 n.up, .int .i64 n.size, .int .i64 n.time, .string n.text, kv], .string name] w (WPost c w) := by
  have hbw := hfb.lt
  have HCK := hide hc
  have h1 : ∀ c, c < L.length → ∃ m, L[c]? = some m ∧ g < C ∧ w.cell? ⟨g, c * 7 + 1, none⟩ = some (.string m.name) := by
    intro c hc
    obtain ⟨m, hm⟩ : ∃ m, L[c]? = some m := ⟨_, List.getElem?_eq_getElem hc⟩
    obtain ⟨g', _, _, _, e, hg, _, ha, _⟩ := hrow.at hm
    cases e
    exact ⟨m, hm, hg, ha.2.1⟩
  obtain ⟨W0, hW0⟩ : ∃ W0, w.alloc (.cells #[.int .u8 n.kind, .string n.name, .int .i64 n.up, .int .i64 n.size, .int .i64 n.time, .string n.text, kv] 68) = W0 := ⟨_, rfl⟩
  have hbl0 : Below w.heap.size w W0 := by rw [← hW0]; exact (Below.refl _ _).alloc (Nat.le_refl _) _
  have h66 : W0.cell? ⟨w.heap.size, 6, none⟩ = some kv := by rw [← hW0, World.cell?_alloc_at _ _ _ _ rfl]; rfl
  have c0 := (hfb.below hbl0 hbw).c0
  have HH1 : Hid (∀ c, c < L.length → ∃ m, L[c]? = some m ∧ W0.cell? ⟨g, c * 7 + 1, none⟩ = some (.string m.name)) := by
    intro c hc
    obtain ⟨m, hm, hg, hn⟩ := h1 c hc
    exact ⟨m, hm, (hbl0.cell (p := ⟨g, c * 7 + 1, none⟩) (by show g < _; omega)).trans hn⟩
  have hint0 : IntRow C W0 kv n.kids := hint.below (hbl0.mono hC)
  have HW := hide hW0
  have hne : n.kids ≠ [] := fun e => by have := (kidOf_ge hc).1; rw [e] at this; cases this
  clear h1 hint hrow hfb hc
  go_enter Tryz.func139, Tryz.ntmps139
  rcases hint0 with ⟨rfl, he⟩ | ⟨g2, cap2, rfl, hg2, hcap2, hx2⟩
  · exact absurd he hne
  · clear hW0 hne
    go_wp2
    rw [unhide HW]
    have hbn : ∀ c : Nat, c < L.length → ((0 : Int) ≤ (c : Int) ∧ (c : Int) < (L.length : Int)) := fun c hc => by omega
    go_loop [13] (fun iv => ∃ j : Nat, j ≤ n.kids.length ∧ iv = .int .i64 j ∧ ∀ x ∈ n.kids.take j, nameIs L name x = false) (fun iv => n.kids.length - (intOf iv).toNat)
    case atStart => exact ⟨0, Nat.zero_le _, rfl, by simp⟩
    case round =>
      obtain ⟨j, hj, rfl, hno⟩ := hrel
      by_cases hlt : j < n.kids.length
      · obtain ⟨c', hc⟩ : ∃ c, n.kids[j]? = some c := ⟨_, List.getElem?_eq_getElem hlt⟩
        have hcl := hkids c' (List.mem_of_getElem? hc)
        have hc2 := hx2 j c' hc
        obtain ⟨m, hm, hmn⟩ := (unhide HH1) c' hcl
        have HN : Hid (nameIs L name c' = (m.name.toList == name.toList)) := by unfold Hid nameIs; rw [hm]
        have HNO : Hid (∀ x ∈ n.kids.take j, nameIs L name x = false) := hno
        have HC : Hid (n.kids[j]? = some c') := hc
        have hcl2 : (c' : Int) < (L.length : Int) := by omega
        clear hno hc hx2 hm hkids hbn
        cases hE : (m.name.toList == name.toList)
        · go_wp2
          go_round
          case rel => exact ⟨j + 1, by omega, by go_num, take_more HC.out HNO.out (by rw [HN.out, hE])⟩
          case measure => simp [intOf]; omega
        · have HEQ : Hid (c' = c) := by
            have := kidOf_hit HC.out HNO.out (by rw [HN.out, hE])
            rw [HCK.out] at this
            unfold Hid
            omega
          go_wp2
          go_ret2
          rw [← HEQ.out]
          exact ⟨rfl, hbl0⟩
      · obtain rfl : j = n.kids.length := by omega
        exfalso
        rw [List.take_length] at hno
        obtain ⟨h1, h2⟩ := kidOf_ge HCK.out
        rw [hno c h1] at h2
        cases h2

set_option maxHeartbeats 1000000 in
theorem isDirW_any (n : NodeD) (w : World) (h : dirD n = true) : Calls Tryz.prog 86 #[.int .u8 n.kind] w fun e w' => e = .returned (.bool true) ∧ w' = w := by
  have hk100 : (n.kind == 100) = true ∨ ((n.kind == 100) = false ∧ (n.kind == 120) = true) := by
    unfold dirD at h
    cases h1 : (n.kind == 100)
    · rw [h1] at h; exact .inr ⟨rfl, by simpa using h⟩
    · exact .inl rfl
  rcases hk100 with h1 | ⟨h1, h2⟩
  all_goals
    go_enter Tryz.func86, Tryz.ntmps86
    go_wp2
    go_ret
    exact ⟨rfl, rfl⟩
set_option maxHeartbeats 1000000 in
theorem hasNodeW (a : Option Addr) (l c : Nat) (i : Int) (w : World) (h0 : 0 ≤ i) (h1 : i < (l : Int)) :
    Calls Tryz.prog 116 #[.slice a l c, .int .i64 i] w fun e w' => e = .returned (.bool true) ∧ w' = w := by
  go_enter Tryz.func116, Tryz.ntmps116
  go_wp2
  go_ret
  exact ⟨rfl, rfl⟩
/-- One name on, where it is there and no link is to be gone through. -/
structure OneOn (L : List NodeD) (k : Nat) (p : ByteArray) (th : Bool) (c : Nat) : Prop where
  n : ∃ n, L[k]? = some n ∧ dirD n = true ∧ kidOf L n.kids p = (c : Int)
  c : ∃ m, L[c]? = some m ∧ (m.kind = 108 → th = false)
  p1 : (p.toList == [46]) = false
  p2 : (p.toList == [46, 46]) = false
set_option maxRecDepth 100000 in
set_option maxHeartbeats 4000000 in
theorem wstep_any (C b g cap : Nat) (L : List NodeD) (k c : Nat) (p : ByteArray) (th : Bool) (links : Nat) (w : World) (hKL : ∀ (i : Nat) (n : NodeD), L[i]? = some n → n.kids.length ≤ 1000 ∧ ∀ c ∈ n.kids, c < L.length) (hon : OneOn L k p th c) (hrow : NodeRow C w (.slice (some ⟨g, 0, none⟩) L.length cap) L) (hC : C ≤ w.heap.size) (hfb : FB w b (.slice (some ⟨g, 0, none⟩) L.length cap) links) :
    Calls Tryz.prog 119 #[.pointer (some ⟨b, 0, none⟩), .int .i64 (k : Int), .string p, .bool th] w (WPost c w) := by
  obtain ⟨⟨n, hk, hdir, hkid⟩, ⟨m, hm, hml⟩, h1, h2⟩ := hon
  have hlt := (List.getElem?_eq_some_iff.1 hk).1
  have hcl := (List.getElem?_eq_some_iff.1 hm).1
  have hkI : (k : Int) < (L.length : Int) := by omega
  have hcI : (c : Int) < (L.length : Int) := by omega
  obtain ⟨g', ka, km, kc, e, hg, hcap, ⟨n0, n1, n2, n3, n4, n5, n6⟩, hint⟩ := hrow.at hk
  cases e
  obtain ⟨hkl1, hkl2⟩ := hKL k n hk
  have c0 := hfb.c0
  obtain ⟨W0, hW0⟩ : ∃ W0, w.alloc (.cells #[.int .u8 n.kind, .string n.name, .int .i64 n.up, .int .i64 n.size, .int .i64 n.time, .string n.text, .slice ka km kc] 68) = W0 := ⟨_, rfl⟩
  have hbl0 : Below w.heap.size w W0 := by rw [← hW0]; exact (Below.refl _ _).alloc (Nat.le_refl _) _
  have hs0 := hbl0.size
  have hbx : W0.heap[w.heap.size]? = some (.cells #[.int .u8 n.kind, .string n.name, .int .i64 n.up, .int .i64 n.size, .int .i64 n.time, .string n.text, .slice ka km kc] 68) := by rw [← hW0]; exact World.alloc_heap_new w _
  have HK := hide (wkid_any C b g cap L n (.slice ka km kc) p links c W0 (hrow.below (hbl0.mono hC)) (by omega) (hfb.below hbl0 hfb.lt) (hint.below (hbl0.mono hC)) hkl2 hkl1 hkid)
  have HDI := hide (isDirW_any n W0 hdir)
  obtain ⟨b0', b1', b2', b3', b4', b5', b6'⟩ := box7 hbx
  have HROW := hide hrow
  have HFB := hide hfb
  have HB0 := hide hbl0
  have HW := hide hW0
  have HM := hide hm
  have hlw := hfb.lt
  clear hrow hfb hint hbl0 hW0 hbx hkl1 hkl2 hKL hk hm hkid
  have hml2 : (m.kind == 108) = false ∨ ((m.kind == 108) = true ∧ th = false) := by
    cases h : (m.kind == 108)
    · exact .inl rfl
    · exact .inr ⟨rfl, hml (by simpa using h)⟩
  clear hml
  rcases hml2 with h108 | ⟨h108, rfl⟩
  all_goals
    go_enter Tryz.func119, Tryz.ntmps119
    go_wp2_with fail
    rw [unhide HW]
    refine (unhide HDI).mono ?_
    rintro e ww ⟨rfl, rfl⟩
    go_wp2_with fail
    refine (unhide HK).mono ?_
    rintro e w2 ⟨rfl, hb2⟩
    have hbw2 := (unhide HB0).trans (hb2.mono hs0)
    obtain ⟨_, _, _, _, e, _, _, ⟨m0, m1, m2, m3, m4, m5, m6⟩, _⟩ := ((unhide HROW).below (hbw2.mono hC)).at (unhide HM)
    cases e
    have d0 := ((unhide HFB).below hbw2 hlw).c0
    have HB2 := hide hbw2
    clear hbw2 hb2
    go_wp2
    go_ret2
    exact ⟨rfl, unhide HB2⟩
end Go.Proofs.YtfemboojdablhaaGreatDoor.Tre
