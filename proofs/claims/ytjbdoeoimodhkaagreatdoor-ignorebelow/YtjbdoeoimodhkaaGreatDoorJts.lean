/- Merged: TSame, TWKid, TWFind. -/
import Derived.Test.YtjbdoeoimodhkaaGreatDoorTGNodes
import Derived.Test.YtjbdoeoimodhkaaGreatDoorTPut
import Derived.Test.YtjbdoeoimodhkaaGreatDoorTGSeq
/- What a row of nodes gives. -/
namespace Go.Proofs.YtjbdoeoimodhkaaGreatDoor.Tre
open Go.RowKit
theorem NodeRow.form {C : Nat} {W : World} {v : Value} {L : List NodeD} (h : NodeRow C W v L) : ∃ a cap, v = .slice a L.length cap := by
  rcases h with ⟨rfl, rfl⟩ | ⟨g, cap, rfl, _⟩
  · exact ⟨_, _, rfl⟩
  · exact ⟨_, _, rfl⟩

theorem IntRow.form {C : Nat} {W : World} {v : Value} {ks : List Nat} (h : IntRow C W v ks) : ∃ a cap, v = .slice a ks.length cap ∧ ∀ (j k : Nat), ks[j]? = some k → ∃ g, a = some ⟨g, 0, none⟩ ∧ ks.length ≤ cap ∧ W.cell? ⟨g, j, none⟩ = some (.int .i64 (k : Int)) := by
  rcases h with ⟨rfl, rfl⟩ | ⟨g, cap, rfl, _, hc, hx⟩
  · exact ⟨_, _, rfl, fun j k h => by simp at h⟩
  · exact ⟨_, _, rfl, fun j k h => ⟨g, rfl, hc, hx j k h⟩⟩
theorem NodeRow.at {C : Nat} {W : World} {a : Option Addr} {m cap : Nat} {L : List NodeD} (h : NodeRow C W (.slice a m cap) L) {i : Nat} {n : NodeD} (hi : L[i]? = some n) : ∃ g ka km kc, a = some ⟨g, 0, none⟩ ∧ g < C ∧ L.length ≤ cap ∧ NodeAt W g i n (.slice ka km kc) ∧ IntRow C W (.slice ka km kc) n.kids := by
  rcases h with ⟨_, rfl⟩ | ⟨g, cap', e, hg, hc, hx⟩
  · simp at hi
  · cases e
    obtain ⟨kv, h1, h2⟩ := hx i n hi
    obtain ⟨ka, kc, rfl, _⟩ := h2.form
    exact ⟨g, ka, _, kc, rfl, hg, hc, h1, h2⟩
theorem box7 {W : World} {b t : Nat} {x0 x1 x2 x3 x4 x5 x6 : Value} (h : W.heap[b]? = some (.cells #[x0, x1, x2, x3, x4, x5, x6] t)) :
    W.cell? ⟨b, 0, none⟩ = some x0 ∧ W.cell? ⟨b, 1, none⟩ = some x1 ∧ W.cell? ⟨b, 2, none⟩ = some x2 ∧ W.cell? ⟨b, 3, none⟩ = some x3 ∧ W.cell? ⟨b, 4, none⟩ = some x4 ∧ W.cell? ⟨b, 5, none⟩ = some x5 ∧ W.cell? ⟨b, 6, none⟩ = some x6 := by
  simp [World.cell?, h]
end Go.Proofs.YtjbdoeoimodhkaaGreatDoor.Tre
/- The program's finder along a way that is there: kid and step. -/
namespace Go.Proofs.YtjbdoeoimodhkaaGreatDoor.Tre
open Go.RowKit

/-- A finder: the nodes, and how many links were gone through. -/
def FB (W : World) (b : Nat) (v : Value) (links : Nat) : Prop := W.heap[b]? = some (.cells #[v, .int .i64 (links : Int)] 81)
theorem FB.lt {b links : Nat} {W : World} {v : Value} (h : FB W b v links) : b < W.heap.size := (Array.getElem?_eq_some_iff.1 h).1
theorem FB.c0 {b links : Nat} {W : World} {v : Value} (h : FB W b v links) : W.cell? ⟨b, 0, none⟩ = some v := by simp [World.cell?, show W.heap[b]? = _ from h]
theorem FB.below {b links C : Nat} {W W' : World} {v : Value} (h : FB W b v links) (hb : Below C W W') (hC : b < C) : FB W' b v links := (hb.block b hC).trans h
def WPost (c : Nat) (w : World) (e : Ending) (w' : World) : Prop := e = .returned (.tuple #[.int .i64 (c : Int), .nilIface]) ∧ Below w.heap.size w w'
theorem kidOf_ge {L : List NodeD} {ks : List Nat} {name : ByteArray} {c : Nat} (h : kidOf L ks name = (c : Int)) : c ∈ ks ∧ nameIs L name c = true := by
  rcases kidOf_cases L ks name with ⟨e, _⟩ | ⟨d, e, hd, hn⟩
  · rw [h] at e; omega
  · rw [h] at e
    have : d = c := by omega
    subst this
    exact ⟨hd, hn⟩

set_option maxRecDepth 100000 in
set_option maxHeartbeats 2000000 in
theorem wkid_any (C b g cap : Nat) (L : List NodeD) (n : NodeD) (kv : Value) (name : ByteArray) (links c : Nat) (w : World) (hrow : NodeRow C w (.slice (some ⟨g, 0, none⟩) L.length cap) L) (hC : C ≤ w.heap.size) (hfb : FB w b (.slice (some ⟨g, 0, none⟩) L.length cap) links)
    (hint : IntRow C w kv n.kids) (hkids : ∀ c ∈ n.kids, c < L.length) (hkl : n.kids.length ≤ 1000) (hc : kidOf L n.kids name = (c : Int)) :
    Calls Tryz.prog 65 #[.pointer (some ⟨b, 0, none⟩), .agg #[.int .u8 n.kind, .string n.name, .int .i64 n.up, .int .i64 n.size, .int .i64 n.time, .string n.text, kv], .string name] w (WPost c w) := by
  have hbw := hfb.lt
  have HCK := hide hc
  have h1 : ∀ c, c < L.length → ∃ m, L[c]? = some m ∧ g < C ∧ w.cell? ⟨g, c * 7 + 1, none⟩ = some (.string m.name) := by
    intro c hc
    obtain ⟨m, hm⟩ : ∃ m, L[c]? = some m := ⟨_, List.getElem?_eq_getElem hc⟩
    obtain ⟨g', _, _, _, e, hg, _, ha, _⟩ := hrow.at hm
    cases e
    exact ⟨m, hm, hg, ha.2.1⟩
  obtain ⟨W0, hW0⟩ : ∃ W0, w.alloc (.cells #[.int .u8 n.kind, .string n.name, .int .i64 n.up, .int .i64 n.size, .int .i64 n.time, .string n.text, kv] 38) = W0 := ⟨_, rfl⟩
  have hbl0 : Below w.heap.size w W0 := by rw [← hW0]; exact (Below.refl _ _).alloc (Nat.le_refl _) _
  have h66 : W0.cell? ⟨w.heap.size, 6, none⟩ = some kv := by rw [← hW0, World.cell?_alloc_at _ _ _ _ rfl]; rfl
  have c0 := (hfb.below hbl0 hbw).c0
  have HH1 : Hid (∀ c, c < L.length → ∃ m, L[c]? = some m ∧ W0.cell? ⟨g, c * 7 + 1, none⟩ = some (.string m.name)) := by
    intro c hc
    obtain ⟨m, hm, hg, hn⟩ := h1 c hc
    exact ⟨m, hm, (hbl0.cell (p := ⟨g, c * 7 + 1, none⟩) (by show g < _; omega)).trans hn⟩
  have hint0 : IntRow C W0 kv n.kids := hint.below (hbl0.mono hC)
  have HW := hide hW0
  have hne : n.kids ≠ [] := fun e => by have := (kidOf_ge hc).1; rw [e] at this; cases this
  clear h1 hint hrow hfb hc
  go_enter Tryz.func65, Tryz.ntmps65
  rcases hint0 with ⟨rfl, he⟩ | ⟨g2, cap2, rfl, hg2, hcap2, hx2⟩
  · exact absurd he hne
  · clear hW0 hne
    go_wp2
    rw [unhide HW]
    have hbn : ∀ c : Nat, c < L.length → ((0 : Int) ≤ (c : Int) ∧ (c : Int) < (L.length : Int)) := fun c hc => by omega
    go_loop [13] (fun iv => ∃ j : Nat, j ≤ n.kids.length ∧ iv = .int .i64 j ∧ ∀ x ∈ n.kids.take j, nameIs L name x = false) (fun iv => n.kids.length - (intOf iv).toNat)
    case atStart => exact ⟨0, Nat.zero_le _, rfl, by simp⟩
    case round =>
      obtain ⟨j, hj, rfl, hno⟩ := hrel
      by_cases hlt : j < n.kids.length
      · obtain ⟨c', hc⟩ : ∃ c, n.kids[j]? = some c := ⟨_, List.getElem?_eq_getElem hlt⟩
        have hcl := hkids c' (List.mem_of_getElem? hc)
        have hc2 := hx2 j c' hc
        obtain ⟨m, hm, hmn⟩ := (unhide HH1) c' hcl
        have HN : Hid (nameIs L name c' = (m.name.toList == name.toList)) := by unfold Hid nameIs; rw [hm]
        have HNO : Hid (∀ x ∈ n.kids.take j, nameIs L name x = false) := hno
        have HC : Hid (n.kids[j]? = some c') := hc
        have hcl2 : (c' : Int) < (L.length : Int) := by omega
        clear hno hc hx2 hm hkids hbn
        cases hE : (m.name.toList == name.toList)
        · go_wp2
          go_round
          case rel => exact ⟨j + 1, by omega, by go_num, take_more HC.out HNO.out (by rw [HN.out, hE])⟩
          case measure => simp [intOf]; omega
        · have HEQ : Hid (c' = c) := by
            have := kidOf_hit HC.out HNO.out (by rw [HN.out, hE])
            rw [HCK.out] at this
            unfold Hid
            omega
          go_wp2
          go_ret2
          rw [← HEQ.out]
          exact ⟨rfl, hbl0⟩
      · obtain rfl : j = n.kids.length := by omega
        exfalso
        rw [List.take_length] at hno
        obtain ⟨h1, h2⟩ := kidOf_ge HCK.out
        rw [hno c h1] at h2
        cases h2

set_option maxHeartbeats 1000000 in
theorem isDirW_any (n : NodeD) (w : World) (h : dirD n = true) : Calls Tryz.prog 30 #[.int .u8 n.kind] w fun e w' => e = .returned (.bool true) ∧ w' = w := by
  have hk100 : (n.kind == 100) = true ∨ ((n.kind == 100) = false ∧ (n.kind == 120) = true) := by
    unfold dirD at h
    cases h1 : (n.kind == 100)
    · rw [h1] at h; exact .inr ⟨rfl, by simpa using h⟩
    · exact .inl rfl
  rcases hk100 with h1 | ⟨h1, h2⟩
  all_goals
    go_enter Tryz.func30, Tryz.ntmps30
    go_wp2
    go_ret
    exact ⟨rfl, rfl⟩
set_option maxHeartbeats 1000000 in
theorem hasNodeW (a : Option Addr) (l c : Nat) (i : Int) (w : World) (h0 : 0 ≤ i) (h1 : i < (l : Int)) :
    Calls Tryz.prog 47 #[.slice a l c, .int .i64 i] w fun e w' => e = .returned (.bool true) ∧ w' = w := by
  go_enter Tryz.func47, Tryz.ntmps47
  go_wp2
  go_ret
  exact ⟨rfl, rfl⟩
/-- One name on, where it is there and no link is to be gone through. -/
structure OneOn (L : List NodeD) (k : Nat) (p : ByteArray) (th : Bool) (c : Nat) : Prop where
  n : ∃ n, L[k]? = some n ∧ dirD n = true ∧ kidOf L n.kids p = (c : Int)
  c : ∃ m, L[c]? = some m ∧ (m.kind = 108 → th = false)
  p1 : (p.toList == [46]) = false
  p2 : (p.toList == [46, 46]) = false
set_option maxRecDepth 100000 in
set_option maxHeartbeats 4000000 in
theorem wstep_any (C b g cap : Nat) (L : List NodeD) (k c : Nat) (p : ByteArray) (th : Bool) (links : Nat) (w : World) (hKL : ∀ (i : Nat) (n : NodeD), L[i]? = some n → n.kids.length ≤ 1000 ∧ ∀ c ∈ n.kids, c < L.length) (hon : OneOn L k p th c) (hrow : NodeRow C w (.slice (some ⟨g, 0, none⟩) L.length cap) L) (hC : C ≤ w.heap.size) (hfb : FB w b (.slice (some ⟨g, 0, none⟩) L.length cap) links) :
    Calls Tryz.prog 48 #[.pointer (some ⟨b, 0, none⟩), .int .i64 (k : Int), .string p, .bool th] w (WPost c w) := by
  obtain ⟨⟨n, hk, hdir, hkid⟩, ⟨m, hm, hml⟩, h1, h2⟩ := hon
  have hlt := (List.getElem?_eq_some_iff.1 hk).1
  have hcl := (List.getElem?_eq_some_iff.1 hm).1
  have hkI : (k : Int) < (L.length : Int) := by omega
  have hcI : (c : Int) < (L.length : Int) := by omega
  obtain ⟨g', ka, km, kc, e, hg, hcap, ⟨n0, n1, n2, n3, n4, n5, n6⟩, hint⟩ := hrow.at hk
  cases e
  obtain ⟨hkl1, hkl2⟩ := hKL k n hk
  have c0 := hfb.c0
  obtain ⟨W0, hW0⟩ : ∃ W0, w.alloc (.cells #[.int .u8 n.kind, .string n.name, .int .i64 n.up, .int .i64 n.size, .int .i64 n.time, .string n.text, .slice ka km kc] 38) = W0 := ⟨_, rfl⟩
  have hbl0 : Below w.heap.size w W0 := by rw [← hW0]; exact (Below.refl _ _).alloc (Nat.le_refl _) _
  have hs0 := hbl0.size
  have hbx : W0.heap[w.heap.size]? = some (.cells #[.int .u8 n.kind, .string n.name, .int .i64 n.up, .int .i64 n.size, .int .i64 n.time, .string n.text, .slice ka km kc] 38) := by rw [← hW0]; exact World.alloc_heap_new w _
  have HK := hide (wkid_any C b g cap L n (.slice ka km kc) p links c W0 (hrow.below (hbl0.mono hC)) (by omega) (hfb.below hbl0 hfb.lt) (hint.below (hbl0.mono hC)) hkl2 hkl1 hkid)
  have HDI := hide (isDirW_any n W0 hdir)
  obtain ⟨b0', b1', b2', b3', b4', b5', b6'⟩ := box7 hbx
  have HROW := hide hrow
  have HFB := hide hfb
  have HB0 := hide hbl0
  have HW := hide hW0
  have HM := hide hm
  have hlw := hfb.lt
  clear hrow hfb hint hbl0 hW0 hbx hkl1 hkl2 hKL hk hm hkid
  have hml2 : (m.kind == 108) = false ∨ ((m.kind == 108) = true ∧ th = false) := by
    cases h : (m.kind == 108)
    · exact .inl rfl
    · exact .inr ⟨rfl, hml (by simpa using h)⟩
  clear hml
  rcases hml2 with h108 | ⟨h108, rfl⟩
  all_goals
    go_enter Tryz.func48, Tryz.ntmps48
    go_wp2_with fail
    rw [unhide HW]
    refine (unhide HDI).mono ?_
    rintro e ww ⟨rfl, rfl⟩
    go_wp2_with fail
    refine (unhide HK).mono ?_
    rintro e w2 ⟨rfl, hb2⟩
    have hbw2 := (unhide HB0).trans (hb2.mono hs0)
    obtain ⟨_, _, _, _, e, _, _, ⟨m0, m1, m2, m3, m4, m5, m6⟩, _⟩ := ((unhide HROW).below (hbw2.mono hC)).at (unhide HM)
    cases e
    have d0 := ((unhide HFB).below hbw2 hlw).c0
    have HB2 := hide hbw2
    clear hbw2 hb2
    go_wp2
    go_ret2
    exact ⟨rfl, unhide HB2⟩
end Go.Proofs.YtjbdoeoimodhkaaGreatDoor.Tre
/- The program's finder along a way that is there: find and Find. -/
namespace Go.Proofs.YtjbdoeoimodhkaaGreatDoor.Tre
open Go.RowKit

set_option maxHeartbeats 1000000 in
theorem wsuffix_any (a : ByteArray) (w : World) (h1 : 1 ≤ a.size) (hs : a.size ≤ 1073741824) (he : ((a.extract (a.size - 1) a.size).toList == [47]) = false) :
    Calls Tryz.prog 46 #[.string a, .string ⟨#[47]⟩] w fun e w' => e = .returned (.bool false) ∧ w' = w := by
  go_enter Tryz.func46, Tryz.ntmps46
  go_wp2
  go_ret
  exact ⟨rfl, rfl⟩
/-- A way that is there, name by name. -/
def ChainW (L : List NodeD) (ps : List ByteArray) (ks : Nat → Nat) : Prop := ∀ (j : Nat) (p : ByteArray), ps[j]? = some p → OneOn L (ks j) p (decide (j < ps.length - 1)) (ks (j + 1))
set_option maxRecDepth 100000 in
set_option maxHeartbeats 4000000 in
theorem wfind_any (C b g cap : Nat) (L : List NodeD) (ks : Nat → Nat) (s : ByteArray) (links : Nat) (w : World) (hKL : ∀ (i : Nat) (n : NodeD), L[i]? = some n → n.kids.length ≤ 1000 ∧ ∀ c ∈ n.kids, c < L.length) (hch : ChainW L (partsS s) ks) (hk : ks 0 < L.length) (h1 : 1 ≤ s.size) (hs : s.size ≤ 1073741824) (hc : ¬ (s[0].toNat : Int) = 47) (hes : ((s.extract (s.size - 1) s.size).toList == [47]) = false)
    (hrow : NodeRow C w (.slice (some ⟨g, 0, none⟩) L.length cap) L) (hC : C ≤ w.heap.size) (hfb : FB w b (.slice (some ⟨g, 0, none⟩) L.length cap) links) :
    Calls Tryz.prog 36 #[.pointer (some ⟨b, 0, none⟩), .int .i64 (ks 0 : Nat), .string s, .bool false] w (WPost (ks (partsS s).length) w) := by
  have he := emp_no h1
  have hpl := partsS_length s
  have HROW := hide hrow
  have HFB := hide hfb
  have HKL := hide hKL
  have HCH := hide hch
  have hbl := hfb.lt
  have cc0 := hfb.c0
  have HP := hide (parts_any s w (by omega))
  have HSU := hide (wsuffix_any s w h1 (by omega) hes)
  have HN := hide (hasNodeW (some ⟨g, 0, none⟩) L.length cap (ks 0 : Nat) w (by omega) (by omega))
  have hcb : ((s[0].toNat : Int) == 47) = false := by rw [beq_eq_false_iff_ne]; exact hc
  clear hrow hfb hKL hch hc hes
  go_enter Tryz.func36, Tryz.ntmps36
  go_wp2_with fail
  refine (unhide HN).mono ?_
  rintro e ww ⟨rfl, hww⟩
  rw [hww]
  clear hww
  go_wp2_with fail
  refine (unhide HSU).mono ?_
  rintro e ww2 ⟨rfl, hww⟩
  rw [hww]
  clear hww
  go_wp2_with fail
  refine (unhide HP).mono ?_
  rintro e w1 ⟨v1, rfl, hown1, hb1⟩
  obtain ⟨ps, hps⟩ : ∃ ps, ps = partsS s := ⟨_, rfl⟩
  rw [← hps] at hpl HCH hown1
  have HPS := hide hps
  have hrow1 := StrRow.of_owns hown1
  have HB1 := hide hb1
  have hz1 := hb1.size
  rw [← hps]
  clear hps hb1
  obtain ⟨a1, cap1, rfl, hx1⟩ : ∃ a1 cap1, v1 = .slice a1 ps.length cap1 ∧ ∀ (j : Nat) (x : ByteArray), ps[j]? = some x → ∃ g1, a1 = some ⟨g1, 0, none⟩ ∧ g1 < w1.heap.size ∧ ps.length ≤ cap1 ∧ w1.cell? ⟨g1, j, none⟩ = some (.string x) := by
    rcases hrow1 with ⟨rfl, rfl⟩ | ⟨g1, cap1, rfl, hg, hc, hx⟩
    · exact ⟨none, 0, rfl, fun j x h => by simp at h⟩
    · exact ⟨_, _, rfl, fun j x h => ⟨g1, rfl, hg, hc, hx j x h⟩⟩
  have HX1 := hide hx1
  clear hown1 hrow1 hx1
  go_wp2
  go_loopw [10, 40] (fun kv iv wr => ∃ j : Nat, j ≤ ps.length ∧ iv = .int .i64 j ∧ kv = .int .i64 (ks j : Nat) ∧ Below w1.heap.size w1 wr) (fun _ iv _ => ps.length - (intOf iv).toNat)
  case atStart => exact ⟨0, Nat.zero_le _, rfl, rfl, Below.refl _ _⟩
  case round =>
    obtain ⟨j, hj, rfl, rfl, hbr⟩ := hrel
    have hzr := hbr.size
    have hbw : Below w.heap.size w wr := HB1.out.trans (hbr.mono hz1)
    have hfr := (unhide HFB).below hbw hbl
    have hrr := (unhide HROW).below (hbw.mono hC)
    have c0 := hfr.c0
    by_cases hlt : j < ps.length
    · obtain ⟨p, hp⟩ : ∃ p, ps[j]? = some p := ⟨_, List.getElem?_eq_getElem hlt⟩
      obtain ⟨g1, rfl, hg1, hcap1, hcell⟩ := HX1.out j p hp
      have cp := (hbr.cell (p := ⟨g1, j, none⟩) hg1).trans hcell
      have HON := hide (HCH.out j p hp)
      have HST := hide (wstep_any C b g cap L (ks j) (ks (j + 1)) p _ links wr HKL.out HON.out hrr (by omega) hfr)
      have HBR := hide hbr
      clear hp hcell hbr hbw hfr hrr
      by_cases hjl : j < ps.length - 1
      · have hjd : (j : Int) < (ps.length : Int) - 1 := by omega
        rw [decide_eq_true hjl] at HST
        go_wp2_with fail
        refine (unhide HST).mono ?_
        rintro e w3 ⟨rfl, hb3⟩
        have HB3 := hide (HBR.out.trans (hb3.mono hzr))
        clear hb3
        go_wp2
        go_roundw
        case rel => exact ⟨j + 1, by omega, by go_num, rfl, HB3.out⟩
        case measure => simp [intOf]; omega
      · have hjd : ¬ (j : Int) < (ps.length : Int) - 1 := by omega
        have hjd2 : decide ((j : Int) < (ps.length : Int) - 1) = false := decide_eq_false hjd
        rw [decide_eq_false hjl] at HST
        go_wp2_with fail
        refine (unhide HST).mono ?_
        rintro e w3 ⟨rfl, hb3⟩
        have HB3 := hide (HBR.out.trans (hb3.mono hzr))
        clear hb3
        go_wp2
        go_roundw
        case rel => exact ⟨j + 1, by omega, by go_num, rfl, HB3.out⟩
        case measure => simp [intOf]; omega
    · obtain rfl : j = ps.length := by omega
      have HBW := hide hbw
      clear hbr hbw hfr hrr
      go_wp2
      go_ret2
      refine ⟨?_, HBW.out⟩
      rw [← HPS.out]
      rfl
set_option maxRecDepth 100000 in
set_option maxHeartbeats 2000000 in
theorem wtfind_any (C g cap : Nat) (L : List NodeD) (ks : Nat → Nat) (s : ByteArray) (w : World) (hKL : ∀ (i : Nat) (n : NodeD), L[i]? = some n → n.kids.length ≤ 1000 ∧ ∀ c ∈ n.kids, c < L.length) (hch : ChainW L (partsS s) ks) (hk : ks 0 < L.length) (h1 : 1 ≤ s.size) (hs : s.size ≤ 1073741824) (hc : ¬ (s[0].toNat : Int) = 47) (hes : ((s.extract (s.size - 1) s.size).toList == [47]) = false)
    (hrow : NodeRow C w (.slice (some ⟨g, 0, none⟩) L.length cap) L) (hC : C ≤ w.heap.size) :
    Calls Tryz.prog 27 #[.slice (some ⟨g, 0, none⟩) L.length cap, .int .i64 (ks 0 : Nat), .string s, .bool false] w fun e w' => e = .returned (.tuple #[.int .i64 (ks (partsS s).length : Nat), .int .i64 0]) ∧ Below w.heap.size w w' := by
  have HF : ∀ W0, FB W0 w.heap.size (.slice (some ⟨g, 0, none⟩) L.length cap) 0 → Below w.heap.size w W0 → Hid (Calls Tryz.prog 36 #[.pointer (some ⟨w.heap.size, 0, none⟩), .int .i64 (ks 0 : Nat), .string s, .bool false] W0 (WPost (ks (partsS s).length) W0)) := fun W0 hfb hbl =>
    hide (wfind_any C w.heap.size g cap L ks s 0 W0 hKL hch hk h1 hs hc hes (hrow.below (hbl.mono hC)) (Nat.le_trans hC hbl.size) hfb)
  clear hrow hch hKL hes hc
  go_enter Tryz.func27, Tryz.ntmps27
  go_wp2_with fail
  obtain ⟨W0, hW0⟩ : ∃ W0, w.alloc (.cells #[.slice (some ⟨g, 0, none⟩) L.length cap, .int .i64 0] 81) = W0 := ⟨_, rfl⟩
  rw [hW0]
  have hfb : FB W0 w.heap.size (.slice (some ⟨g, 0, none⟩) L.length cap) 0 := by rw [← hW0]; exact World.alloc_heap_new w _
  have hbl : Below w.heap.size w W0 := by rw [← hW0]; exact (Below.refl _ _).alloc (Nat.le_refl _) _
  clear hW0
  refine (unhide (HF W0 hfb hbl)).mono ?_
  rintro e w1 ⟨rfl, hb1⟩
  have HB := hide (hbl.trans (hb1.mono hbl.size))
  clear HF hb1 hfb hbl
  go_wp2
  go_ret2
  exact ⟨rfl, HB.out⟩
end Go.Proofs.YtjbdoeoimodhkaaGreatDoor.Tre
