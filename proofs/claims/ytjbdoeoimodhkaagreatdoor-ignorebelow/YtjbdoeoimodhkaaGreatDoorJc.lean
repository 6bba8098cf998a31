/- Merged: TIs, TFi, IbP. -/
import Derived.Test.YtjbdoeoimodhkaaGreatDoorJts
import Derived.LaidEql
import Derived.Stop.Asserts
import Derived.RowKitTokens
import Derived.Deep.QuietTactic
import Derived.Test.YtjbdoeoimodhkaaGreatDoorJb
/- errors.Is between two errors of errors.New's make: Go's own text, walked (after the guide's 10.9). -/
namespace Go.Proofs.YtjbdoeoimodhkaaGreatDoor.Tre
open Go.RowKit Go.Extern.Stop Go.Stop Go.Extern

theorem Tryz.isTypeOf (v : Value) (w : World) : (Extern.ReflectliteType.typeOf #[.iface 239 v]).run Tryz.prog w = .ok (.iface 139 (.agg #[.pointer (some ⟨10, 239, none⟩)])) w := by kernel_rfl
def cmpE : Array Value → Sem Value := Extern.ReflectliteType.method fun t => do Extern.Rtype.noPackHeld "Comparable" t; pure (.bool (← typeInfo t).comparable)
theorem Tryz.isComparable (w : World) : (cmpE #[.agg #[.pointer (some ⟨10, 239, none⟩)]]).run Tryz.prog w = .ok (.bool true) w := by kernel_rfl
theorem Tryz.isMethodComparable (v : Value) (w : World) : (Go.method 374 139 v "Comparable").run Tryz.prog w = .ok (171, v) w := by kernel_rfl
theorem Tryz.isComp : (Tryz.prog.info? 239).map (·.comparable) = some true := by kernel_rfl
theorem Tryz.isSize : (Tryz.prog.info? 262).map (·.size) = some 1 := by kernel_rfl
theorem Tryz.noIsE (v : Value) (xT : TypeId) (w : World) : (Instr.typeAssert (.iface 239 v) xT 141 true).run Tryz.prog w = .ok (.tuple #[.nilIface, .bool false]) w := run_typeAssert_lacksB Tryz.underlying141 (by kernel_rfl) (by kernel_rfl) v xT w
theorem Tryz.noUnwrapE (v : Value) (xT : TypeId) (w : World) : (Instr.typeAssert (.iface 239 v) xT 144 true).run Tryz.prog w = .ok (.tuple #[.nilIface, .bool false]) w := run_typeAssert_lacksB Tryz.underlying144 (by kernel_rfl) (by kernel_rfl) v xT w
theorem Tryz.noUnwrapsE (v : Value) (xT : TypeId) (w : World) : (Instr.typeAssert (.iface 239 v) xT 146 true).run Tryz.prog w = .ok (.tuple #[.nilIface, .bool false]) w := run_typeAssert_lacksB Tryz.underlying146 (by kernel_rfl) (by kernel_rfl) v xT w

set_option maxRecDepth 100000 in
set_option maxHeartbeats 1000000 in
theorem is_same (a : Addr) (w : World) :
    Calls Tryz.prog 49 #[.iface 239 (.pointer (some a)), .iface 239 (.pointer (some a))] w fun e w' => e = .returned (.bool true) ∧ w' = w := by
  obtain ⟨i, hi, hcmp⟩ := Option.map_eq_some_iff.1 Tryz.isComp
  obtain ⟨j, hj, hjs⟩ := Option.map_eq_some_iff.1 Tryz.isSize
  have h8 := @run_callFunc_extern Tryz.prog 67 _ Extern.ReflectliteType.typeOf Tryz.func67 (by kernel_rfl) (by kernel_rfl) (by kernel_rfl) (by kernel_rfl)
  have h32 := @run_callFunc_extern Tryz.prog 171 _ cmpE Tryz.func171 (by kernel_rfl) (by kernel_rfl) (by kernel_rfl) (by kernel_rfl)
  have tT := Tryz.isTypeOf
  have cT := Tryz.isComparable
  have mR := Tryz.isMethodComparable
  have heq := run_eql_iface_ptr_same (P := Tryz.prog) w a Tryz.underlying83 Tryz.underlying239 hi hcmp hj
  go_enter Tryz.func49, Tryz.ntmps49
  go_wp2
  refine wp_loop_rounds 1 ?_
  rw [rounds_succ]
  go_wp2
  go_ret
  exact ⟨rfl, rfl⟩

set_option maxRecDepth 100000 in
set_option maxHeartbeats 1000000 in
theorem is_other (a b : Addr) (ca cb : Array Value) (ta tb : TypeId) (w : World) (hne : a ≠ b) (ha : w.heap[a.block]? = some (.cells ca ta (0, 0))) (hb : w.heap[b.block]? = some (.cells cb tb (0, 0))) :
    Calls Tryz.prog 49 #[.iface 239 (.pointer (some a)), .iface 239 (.pointer (some b))] w fun e w' => e = .returned (.bool false) ∧ w' = w := by
  obtain ⟨i, hi, hcmp⟩ := Option.map_eq_some_iff.1 Tryz.isComp
  obtain ⟨j, hj, hjs⟩ := Option.map_eq_some_iff.1 Tryz.isSize
  have h8 := @run_callFunc_extern Tryz.prog 67 _ Extern.ReflectliteType.typeOf Tryz.func67 (by kernel_rfl) (by kernel_rfl) (by kernel_rfl) (by kernel_rfl)
  have h32 := @run_callFunc_extern Tryz.prog 171 _ cmpE Tryz.func171 (by kernel_rfl) (by kernel_rfl) (by kernel_rfl) (by kernel_rfl)
  have tT := Tryz.isTypeOf
  have cT := Tryz.isComparable
  have mR := Tryz.isMethodComparable
  have nE := Tryz.noIsE
  have uE := Tryz.noUnwrapE
  have vE := Tryz.noUnwrapsE
  have heq := run_eql_iface_ptr_other (P := Tryz.prog) w Tryz.underlying83 Tryz.underlying239 hi hcmp hj (by rw [hjs]; decide) hne ha hb
  go_enter Tryz.func49, Tryz.ntmps49
  go_wp2
  refine wp_loop_rounds 1 ?_
  rw [rounds_succ]
  go_wp2
  go_ret
  exact ⟨rfl, rfl⟩
end Go.Proofs.YtjbdoeoimodhkaaGreatDoor.Tre
/- The program's Find of a name that is not there. -/
namespace Go.Proofs.YtjbdoeoimodhkaaGreatDoor.Tre
open Go.RowKit

/-- A pointee of the package's errors: a row of its own below C. -/
def Pointee (C : Nat) (W : World) (a : Addr) : Prop := a.block < C ∧ ∃ c t, W.heap[a.block]? = some (.cells c t (0, 0))
/-- Three of the package's errors. -/
structure Sn (C : Nat) (a6 a2 a4 : Addr) (W : World) : Prop where
  c0 : W.cell? ⟨0, 0, none⟩ = some (.iface 239 (.pointer (some a6)))
  c2 : W.cell? ⟨2, 0, none⟩ = some (.iface 239 (.pointer (some a2)))
  c3 : W.cell? ⟨3, 0, none⟩ = some (.iface 239 (.pointer (some a4)))
  p6 : Pointee C W a6
  p2 : Pointee C W a2
  p4 : Pointee C W a4
  n62 : a6 ≠ a2
  n64 : a6 ≠ a4
theorem Pointee.below {C : Nat} {W W' : World} {a : Addr} (h : Pointee C W a) (hb : Below C W W') : Pointee C W' a := by
  obtain ⟨h1, c, t, h2⟩ := h
  exact ⟨h1, c, t, (hb.block a.block h1).trans h2⟩
theorem Sn.below {C : Nat} {a6 a2 a4 : Addr} {W W' : World} (h : Sn C a6 a2 a4 W) (hb : Below C W W') (h10 : 10 ≤ C) : Sn C a6 a2 a4 W' :=
  ⟨(hb.cell (p := ⟨0, 0, none⟩) (by show 0 < C; omega)).trans h.c0, (hb.cell (p := ⟨2, 0, none⟩) (by show 2 < C; omega)).trans h.c2, (hb.cell (p := ⟨3, 0, none⟩) (by show 3 < C; omega)).trans h.c3, h.p6.below hb, h.p2.below hb, h.p4.below hb, h.n62, h.n64⟩
theorem is_no {C : Nat} {W : World} {a b : Addr} (ha : Pointee C W a) (hb : Pointee C W b) (hne : a ≠ b) : Calls Tryz.prog 49 #[.iface 239 (.pointer (some a)), .iface 239 (.pointer (some b))] W fun e w' => e = .returned (.bool false) ∧ w' = W := by
  obtain ⟨_, ca, ta, ha⟩ := ha
  obtain ⟨_, cb, tb, hb⟩ := hb
  exact is_other a b ca cb ta tb W hne ha hb
set_option maxRecDepth 100000 in
set_option maxHeartbeats 2000000 in
theorem errno6 (C : Nat) (a6 a2 a4 : Addr) (w : World) (h : Sn C a6 a2 a4 w) : Calls Tryz.prog 37 #[.iface 239 (.pointer (some a6))] w fun e w' => e = .returned (.int .i64 6) ∧ w' = w := by
  have c0 := h.c0
  have c2 := h.c2
  have c3 := h.c3
  have H1 := hide (is_no h.p6 h.p2 h.n62)
  have H2 := hide (is_no h.p6 h.p4 h.n64)
  have H3 := hide (is_same a6 w)
  clear h
  go_enter Tryz.func37, Tryz.ntmps37
  go_wp2_with fail
  refine (unhide H1).mono ?_
  rintro e ww ⟨rfl, hww⟩
  rw [hww]; clear hww
  go_wp2_with fail
  refine (unhide H2).mono ?_
  rintro e ww ⟨rfl, hww⟩
  rw [hww]; clear hww
  go_wp2_with fail
  refine (unhide H3).mono ?_
  rintro e ww ⟨rfl, hww⟩
  rw [hww]; clear hww
  go_wp2
  go_ret
  exact ⟨rfl, rfl⟩
/-- It is not there. -/
def NPost (a6 : Addr) (w : World) (e : Ending) (w' : World) : Prop := e = .returned (.tuple #[.int .i64 0, .iface 239 (.pointer (some a6))]) ∧ Below w.heap.size w w'
set_option maxRecDepth 100000 in
set_option maxHeartbeats 2000000 in
theorem wkid_none (a6 a2 a4 : Addr) (C b g cap : Nat) (L : List NodeD) (n : NodeD) (kv : Value) (name : ByteArray) (links : Nat) (w : World) (hrow : NodeRow C w (.slice (some ⟨g, 0, none⟩) L.length cap) L) (hC : C ≤ w.heap.size) (hfb : FB w b (.slice (some ⟨g, 0, none⟩) L.length cap) links)
    (hint : IntRow C w kv n.kids) (hkids : ∀ c ∈ n.kids, c < L.length) (hkl : n.kids.length ≤ 1000) (hc : kidOf L n.kids name = -1) (hS : Sn C a6 a2 a4 w) :
    Calls Tryz.prog 65 #[.pointer (some ⟨b, 0, none⟩), .agg #[.int .u8 n.kind, .string n.name, .int .i64 n.up, .int .i64 n.size, .int .i64 n.time, .string n.text, kv], .string name] w (NPost a6 w) := by
  have hbw := hfb.lt
  have HCK := hide hc
  have h1 : ∀ c, c < L.length → ∃ m, L[c]? = some m ∧ g < C ∧ w.cell? ⟨g, c * 7 + 1, none⟩ = some (.string m.name) := by
    intro c hc
    obtain ⟨m, hm⟩ : ∃ m, L[c]? = some m := ⟨_, List.getElem?_eq_getElem hc⟩
    obtain ⟨g', _, _, _, e, hg, _, ha, _⟩ := hrow.at hm
    cases e
    exact ⟨m, hm, hg, ha.2.1⟩
  obtain ⟨W0, hW0⟩ : ∃ W0, w.alloc (.cells #[.int .u8 n.kind, .string n.name, .int .i64 n.up, .int .i64 n.size, .int .i64 n.time, .string n.text, kv] 38) = W0 := ⟨_, rfl⟩
  have hbl0 : Below w.heap.size w W0 := by rw [← hW0]; exact (Below.refl _ _).alloc (Nat.le_refl _) _
  have h66 : W0.cell? ⟨w.heap.size, 6, none⟩ = some kv := by rw [← hW0, World.cell?_alloc_at _ _ _ _ rfl]; rfl
  have c0 := (hfb.below hbl0 hbw).c0
  have HH1 : Hid (∀ c, c < L.length → ∃ m, L[c]? = some m ∧ W0.cell? ⟨g, c * 7 + 1, none⟩ = some (.string m.name)) := by
    intro c hc
    obtain ⟨m, hm, hg, hn⟩ := h1 c hc
    exact ⟨m, hm, (hbl0.cell (p := ⟨g, c * 7 + 1, none⟩) (by show g < _; omega)).trans hn⟩
  have hint0 : IntRow C W0 kv n.kids := hint.below (hbl0.mono hC)
  have HW := hide hW0
  have e0 := (hbl0.cell (p := ⟨0, 0, none⟩) (by show 0 < _; omega)).trans hS.c0
  clear h1 hint hrow hfb hc hS
  go_enter Tryz.func65, Tryz.ntmps65
  rcases hint0 with ⟨rfl, he⟩ | ⟨g2, cap2, rfl, hg2, hcap2, hx2⟩
  · clear hW0
    go_wp2
    rw [unhide HW]
    refine wp_loop_rounds 1 ?_
    rw [rounds_succ]
    go_wp2
    go_quiet (fail)
    go_wp2
    go_ret2
    exact ⟨rfl, ⟨hbl0.os, hbl0.tape, hbl0.output, hbl0.size, hbl0.block⟩⟩
  · clear hW0
    go_wp2
    rw [unhide HW]
    have hbn : ∀ c : Nat, c < L.length → ((0 : Int) ≤ (c : Int) ∧ (c : Int) < (L.length : Int)) := fun c hc => by omega
    go_loop [13] (fun iv => ∃ j : Nat, j ≤ n.kids.length ∧ iv = .int .i64 j ∧ ∀ x ∈ n.kids.take j, nameIs L name x = false) (fun iv => n.kids.length - (intOf iv).toNat)
    case atStart => exact ⟨0, Nat.zero_le _, rfl, by simp⟩
    case round =>
      obtain ⟨j, hj, rfl, hno⟩ := hrel
      by_cases hlt : j < n.kids.length
      · obtain ⟨c', hc⟩ : ∃ c, n.kids[j]? = some c := ⟨_, List.getElem?_eq_getElem hlt⟩
        have hcl := hkids c' (List.mem_of_getElem? hc)
        have hc2 := hx2 j c' hc
        obtain ⟨m, hm, hmn⟩ := (unhide HH1) c' hcl
        have HN : Hid (nameIs L name c' = (m.name.toList == name.toList)) := by unfold Hid nameIs; rw [hm]
        have HNO : Hid (∀ x ∈ n.kids.take j, nameIs L name x = false) := hno
        have HC : Hid (n.kids[j]? = some c') := hc
        have hcl2 : (c' : Int) < (L.length : Int) := by omega
        clear hno hc hx2 hm hkids hbn
        cases hE : (m.name.toList == name.toList)
        · go_wp2
          go_round
          case rel => exact ⟨j + 1, by omega, by go_num, take_more HC.out HNO.out (by rw [HN.out, hE])⟩
          case measure => simp [intOf]; omega
        · exfalso
          have := kidOf_hit HC.out HNO.out (by rw [HN.out, hE])
          rw [HCK.out] at this
          omega
      · obtain rfl : j = n.kids.length := by omega
        clear hno
        go_wp2
        go_quiet (fail)
        go_wp2
        go_ret2
        exact ⟨rfl, ⟨hbl0.os, hbl0.tape, hbl0.output, hbl0.size, hbl0.block⟩⟩

set_option maxRecDepth 100000 in
set_option maxHeartbeats 4000000 in
theorem wstep_none (a6 a2 a4 : Addr) (C b g cap : Nat) (L : List NodeD) (k : Nat) (p : ByteArray) (th : Bool) (links : Nat) (w : World) (hKL : ∀ (i : Nat) (n : NodeD), L[i]? = some n → n.kids.length ≤ 1000 ∧ ∀ c ∈ n.kids, c < L.length) (n : NodeD) (hk : L[k]? = some n) (hdir : dirD n = true) (hkid : kidOf L n.kids p = -1) (h1 : (p.toList == [46]) = false) (h2 : (p.toList == [46, 46]) = false) (hS : Sn C a6 a2 a4 w) (h10 : 10 ≤ C) (hrow : NodeRow C w (.slice (some ⟨g, 0, none⟩) L.length cap) L) (hC : C ≤ w.heap.size) (hfb : FB w b (.slice (some ⟨g, 0, none⟩) L.length cap) links) :
    Calls Tryz.prog 48 #[.pointer (some ⟨b, 0, none⟩), .int .i64 (k : Int), .string p, .bool th] w (NPost a6 w) := by
  have hlt := (List.getElem?_eq_some_iff.1 hk).1
  have hkI : (k : Int) < (L.length : Int) := by omega
  obtain ⟨g', ka, km, kc, e, hg, hcap, ⟨n0, n1, n2, n3, n4, n5, n6⟩, hint⟩ := hrow.at hk
  cases e
  obtain ⟨hkl1, hkl2⟩ := hKL k n hk
  have c0 := hfb.c0
  obtain ⟨W0, hW0⟩ : ∃ W0, w.alloc (.cells #[.int .u8 n.kind, .string n.name, .int .i64 n.up, .int .i64 n.size, .int .i64 n.time, .string n.text, .slice ka km kc] 38) = W0 := ⟨_, rfl⟩
  have hbl0 : Below w.heap.size w W0 := by rw [← hW0]; exact (Below.refl _ _).alloc (Nat.le_refl _) _
  have hs0 := hbl0.size
  have hbx : W0.heap[w.heap.size]? = some (.cells #[.int .u8 n.kind, .string n.name, .int .i64 n.up, .int .i64 n.size, .int .i64 n.time, .string n.text, .slice ka km kc] 38) := by rw [← hW0]; exact World.alloc_heap_new w _
  have HK := hide (wkid_none a6 a2 a4 C b g cap L n (.slice ka km kc) p links W0 (hrow.below (hbl0.mono hC)) (by omega) (hfb.below hbl0 hfb.lt) (hint.below (hbl0.mono hC)) hkl2 hkl1 hkid (hS.below (hbl0.mono hC) h10))
  have HDI := hide (isDirW_any n W0 hdir)
  obtain ⟨b0', b1', b2', b3', b4', b5', b6'⟩ := box7 hbx
  have HROW := hide hrow
  have HFB := hide hfb
  have HB0 := hide hbl0
  have HW := hide hW0
  have hlw := hfb.lt
  clear hrow hfb hint hbl0 hW0 hbx hkl1 hkl2 hKL hk hkid hS
  clear HROW HFB
  go_enter Tryz.func48, Tryz.ntmps48
  go_wp2_with fail
  rw [unhide HW]
  refine (unhide HDI).mono ?_
  rintro e ww ⟨rfl, hww⟩
  rw [hww]; clear hww
  go_wp2_with fail
  refine (unhide HK).mono ?_
  rintro e w2 ⟨rfl, hb2⟩
  have HB2 := hide ((unhide HB0).trans (hb2.mono hs0))
  clear hb2
  go_wp2
  go_ret2
  exact ⟨rfl, unhide HB2⟩
def ignS : ByteArray := ⟨#[46, 105, 103, 110, 111, 114, 101]⟩
theorem parts_ign : partsS ignS = [ignS] := by kernel_rfl
set_option maxRecDepth 100000 in
set_option maxHeartbeats 4000000 in
theorem wfind_none (a6 a2 a4 : Addr) (C b g cap : Nat) (L : List NodeD) (k : Nat) (links : Nat) (w : World) (hKL : ∀ (i : Nat) (n : NodeD), L[i]? = some n → n.kids.length ≤ 1000 ∧ ∀ c ∈ n.kids, c < L.length) (n : NodeD) (hk : L[k]? = some n) (hdir : dirD n = true) (hkid : kidOf L n.kids ignS = -1) (hS : Sn C a6 a2 a4 w) (h10 : 10 ≤ C)
    (hrow : NodeRow C w (.slice (some ⟨g, 0, none⟩) L.length cap) L) (hC : C ≤ w.heap.size) (hfb : FB w b (.slice (some ⟨g, 0, none⟩) L.length cap) links) :
    Calls Tryz.prog 36 #[.pointer (some ⟨b, 0, none⟩), .int .i64 (k : Int), .string ignS, .bool false] w (NPost a6 w) := by
  have hlt := (List.getElem?_eq_some_iff.1 hk).1
  have h1 : 1 ≤ ignS.size := by decide
  have he := emp_no h1
  have HROW := hide hrow
  have HFB := hide hfb
  have HKL := hide hKL
  have hbl := hfb.lt
  have cc0 := hfb.c0
  have hP := parts_any ignS w (by decide)
  rw [parts_ign] at hP
  have HP := hide hP
  have HSU := hide (wsuffix_any ignS w h1 (by decide) (by kernel_rfl))
  have HN := hide (hasNodeW (some ⟨g, 0, none⟩) L.length cap (k : Int) w (by omega) (by omega))
  have HST : Hid (∀ w1, Below w.heap.size w w1 → Calls Tryz.prog 48 #[.pointer (some ⟨b, 0, none⟩), .int .i64 (k : Int), .string ignS, .bool false] w1 (NPost a6 w1)) := fun w1 hb1 =>
    wstep_none a6 a2 a4 C b g cap L k ignS false links w1 hKL n hk hdir hkid (by kernel_rfl) (by kernel_rfl) (hS.below (hb1.mono hC) h10) h10 (hrow.below (hb1.mono hC)) (Nat.le_trans hC hb1.size) (hfb.below hb1 hbl)
  clear hrow hfb hKL hP hS hkid hk hdir
  obtain ⟨s, hs⟩ : ∃ s, ignS = s := ⟨_, rfl⟩
  have hs7 : s.size = 7 := by rw [← hs]; rfl
  rw [hs] at HP HSU HST he ⊢
  have hcb' : ((s[0].toNat : Int) == 47) = false := by subst hs; rfl
  clear hs
  go_enter Tryz.func36, Tryz.ntmps36
  go_wp2_with fail
  refine (unhide HN).mono ?_
  rintro e ww ⟨rfl, hww⟩
  rw [hww]
  clear hww
  go_wp2_with fail
  refine (unhide HSU).mono ?_
  rintro e ww2 ⟨rfl, hww⟩
  rw [hww]
  clear hww
  go_wp2_with fail
  refine (unhide HP).mono ?_
  rintro e w1 ⟨v1, rfl, hown1, hb1⟩
  have hrow1 := StrRow.of_owns hown1
  have HB1 := hide hb1
  have hfb1 := HFB.out.below hb1 hbl
  have c1 := hfb1.c0
  have hst := HST.out w1 hb1
  rcases hrow1 with ⟨_, h0⟩ | ⟨g1, cap1, rfl, hg, hcp, hx⟩
  · cases h0
  · have hcell := hx 0 s rfl
    clear hx hown1 hfb1 hb1 HFB HST HROW
    go_wp2
    refine wp_loop_rounds 1 ?_
    rw [rounds_succ]
    go_wp2_with fail
    refine hst.mono ?_
    rintro e w2 ⟨rfl, hb2⟩
    have HB2 := hide (HB1.out.trans (hb2.mono HB1.out.size))
    clear hb2
    go_wp2
    go_ret2
    exact ⟨rfl, HB2.out⟩
set_option maxRecDepth 100000 in
set_option maxHeartbeats 2000000 in
theorem wtfind_none (a6 a2 a4 : Addr) (C g cap : Nat) (L : List NodeD) (k : Nat) (w : World) (hKL : ∀ (i : Nat) (n : NodeD), L[i]? = some n → n.kids.length ≤ 1000 ∧ ∀ c ∈ n.kids, c < L.length) (n : NodeD) (hk : L[k]? = some n) (hdir : dirD n = true) (hkid : kidOf L n.kids ignS = -1) (hS : Sn C a6 a2 a4 w) (h10 : 10 ≤ C)
    (hrow : NodeRow C w (.slice (some ⟨g, 0, none⟩) L.length cap) L) (hC : C ≤ w.heap.size) :
    Calls Tryz.prog 27 #[.slice (some ⟨g, 0, none⟩) L.length cap, .int .i64 (k : Int), .string ignS, .bool false] w fun e w' => e = .returned (.tuple #[.int .i64 0, .int .i64 6]) ∧ Below w.heap.size w w' := by
  have HF : ∀ W0, FB W0 w.heap.size (.slice (some ⟨g, 0, none⟩) L.length cap) 0 → Below w.heap.size w W0 → Hid (Calls Tryz.prog 36 #[.pointer (some ⟨w.heap.size, 0, none⟩), .int .i64 (k : Int), .string ignS, .bool false] W0 (NPost a6 W0)) := fun W0 hfb hbl =>
    hide (wfind_none a6 a2 a4 C w.heap.size g cap L k 0 W0 hKL n hk hdir hkid (hS.below (hbl.mono hC) h10) h10 (hrow.below (hbl.mono hC)) (Nat.le_trans hC hbl.size) hfb)
  have HS := hide hS
  clear hrow hKL hk hdir hkid hS
  obtain ⟨s, hs⟩ : ∃ s, ignS = s := ⟨_, rfl⟩
  rw [hs] at HF ⊢
  clear hs
  go_enter Tryz.func27, Tryz.ntmps27
  go_wp2_with fail
  obtain ⟨W0, hW0⟩ : ∃ W0, w.alloc (.cells #[.slice (some ⟨g, 0, none⟩) L.length cap, .int .i64 0] 81) = W0 := ⟨_, rfl⟩
  rw [hW0]
  have hfb : FB W0 w.heap.size (.slice (some ⟨g, 0, none⟩) L.length cap) 0 := by rw [← hW0]; exact World.alloc_heap_new w _
  have hbl : Below w.heap.size w W0 := by rw [← hW0]; exact (Below.refl _ _).alloc (Nat.le_refl _) _
  clear hW0
  refine (unhide (HF W0 hfb hbl)).mono ?_
  rintro e w1 ⟨rfl, hb1⟩
  have hb2 := hbl.trans (hb1.mono hbl.size)
  have HE := hide (errno6 C a6 a2 a4 w1 (HS.out.below (hb2.mono hC) h10))
  have HB := hide hb2
  clear HF hb1 hfb hbl hb2
  go_wp2_with fail
  refine (unhide HE).mono ?_
  rintro e w2 ⟨rfl, hw2⟩
  rw [hw2]; clear hw2
  go_wp2
  go_ret2
  exact ⟨rfl, HB.out⟩
end Go.Proofs.YtjbdoeoimodhkaaGreatDoor.Tre
/- rulesIn: the rules that a directory has. -/
namespace Go.Proofs.YtjbdoeoimodhkaaGreatDoor
open Go.RowKit Go.Shelf
open Tre (NodeD NodeRow dirD nameIs kidOf Sn)

theorem ign_eq : Tre.ignS = ignS := rfl
theorem kid_find {L : List NodeD} {ks : List Nat} {x : ByteArray} : (kidOf L ks x = -1 ∧ ks.find? (nameIs L x) = none) ∨ ∃ c : Nat, kidOf L ks x = (c : Int) ∧ ks.find? (nameIs L x) = some c ∧ c ∈ ks := by
  unfold kidOf
  cases h : ks.find? (nameIs L x) with
  | none => exact .inl ⟨rfl, rfl⟩
  | some c => exact .inr ⟨c, rfl, rfl, List.mem_of_find?_eq_some h⟩
theorem owns_up {B B' t sz n : Nat} {W : World} {v : Value} {xs : List Value} (h : W.ownsRow B t sz v n xs) (hB : B' ≤ B) : W.ownsRow B' t sz v n xs := by
  refine ⟨h.1, ?_⟩
  rcases h.2 with h2 | ⟨g, cap, cur, e, hbb, r⟩
  · exact .inl h2
  · exact .inr ⟨g, cap, cur, e, Nat.le_trans hB hbb, r⟩
set_option maxRecDepth 100000 in
set_option maxHeartbeats 4000000 in
theorem rulesIn_any (a6 a2 a4 : Addr) (C g cap : Nat) (L : List NodeD) (hT : TOK L) (k : Nat) (n : NodeD) (hk : L[k]? = some n) (hdir : dirD n = true) (w : World) (hG : GW w) (hS : Sn C a6 a2 a4 w) (h10 : 10 ≤ C) (hrow : NodeRow C w (.slice (some ⟨g, 0, none⟩) L.length cap) L) (hC : C ≤ w.heap.size) :
    Calls Tryz.prog 18 #[.slice (some ⟨g, 0, none⟩) L.length cap, .int .i64 (k : Int)] w fun e w' => ∃ v, e = .returned v ∧ w'.ownsRow w.heap.size 75 4 v (rulesD L k).length (rulesL (rulesD L k)) ∧ Below w.heap.size w w' := by
  have hlt := (List.getElem?_eq_some_iff.1 hk).1
  have hlen := hT.len
  rcases kid_find (L := L) (ks := n.kids) (x := ignS) with ⟨hk0, hf⟩ | ⟨c, hkc, hf, hc⟩
  · have hFI := Tre.wtfind_none a6 a2 a4 C g cap L k w hT.kids n hk hdir hk0 hS h10 hrow hC
    have HR : Hid (rulesD L k = []) := by unfold Hid rulesD; rw [hk]; dsimp only; rw [hf]
    clear hk hf hk0 hrow hS hT
    go_enter Tryz.func18, Tryz.ntmps18
    go_wp2_with fail
    refine hFI.mono ?_
    rintro e w1 ⟨rfl, hb1⟩
    have HB := hide hb1
    clear hb1 hFI
    go_wp2
    go_ret
    rw [HR.out]
    exact ⟨_, rfl, World.ownsRow_nil _ _ _ _, HB.out⟩
  · obtain ⟨m, hm⟩ : ∃ m, L[c]? = some m := ⟨_, List.getElem?_eq_getElem ((hT.kids k n hk).2 c hc)⟩
    have hcl := (hT.kids k n hk).2 c hc
    have hcI : (c : Int) < (L.length : Int) := by omega
    have htx := hT.text c m hm
    have hch : Tre.ChainW L (Tre.partsS Tre.ignS) (fun j => if j = 0 then k else c) := by
      rw [Tre.parts_ign]
      intro j p hp
      cases j with
      | zero =>
        simp at hp
        subst hp
        exact ⟨⟨n, hk, hdir, hkc⟩, ⟨m, hm, fun _ => rfl⟩, by kernel_rfl, by kernel_rfl⟩
      | succ j => simp at hp
    have hFI0 := Tre.wtfind_any C g cap L (fun j => if j = 0 then k else c) Tre.ignS w hT.kids hch hlt (by decide) (by decide) (by decide) (by kernel_rfl) hrow hC
    have hFI : Calls Tryz.prog 27 #[.slice (some ⟨g, 0, none⟩) L.length cap, .int .i64 (k : Int), .string ignS, .bool false] w fun e w' => e = .returned (.tuple #[.int .i64 (c : Int), .int .i64 0]) ∧ Below w.heap.size w w' := by
      rw [Tre.parts_ign] at hFI0
      exact hFI0
    clear hFI0
    have HROW := hide hrow
    have HM := hide hm
    by_cases h102 : m.kind = 102
    · have hkb : (m.kind == 102) = true := by rw [h102]; rfl
      have HR : Hid (rulesD L k = rulesOf m.text) := by unfold Hid rulesD; rw [hk]; dsimp only; rw [hf]; dsimp only; rw [hm]; dsimp only; rw [if_pos h102]
      have HG := hide hG
      clear hk hf hkc hrow hS hT hm hch hG h102
      go_enter Tryz.func18, Tryz.ntmps18
      go_wp2_with fail
      refine hFI.mono ?_
      rintro e w1 ⟨rfl, hb1⟩
      obtain ⟨_, _, _, _, hge, _, _, ⟨m0, m1, m2, m3, m4, m5, m6⟩, _⟩ := (HROW.out.below (hb1.mono hC)).at HM.out
      cases hge
      have HB := hide hb1
      have hRD := readR_any m.text (by omega) w1 (HG.out.below hb1).mx (by have := (HG.out.below hb1).big; omega)
      clear hb1 hFI m1 m2 m3 m4 m6
      go_wp2_with fail
      refine hRD.mono ?_
      rintro e w2 ⟨v, rfl, hown, hb2⟩
      obtain ⟨va, vc, rfl⟩ : ∃ a c, v = .slice a (rulesOf m.text).length c := by
        rcases hown.2 with ⟨e, h0⟩ | ⟨g, c, cur, e, _⟩
        · exact ⟨none, 0, by rw [e, show (rulesOf m.text).length = 0 from h0]⟩
        · exact ⟨_, _, e⟩
      have HO := hide hown
      have HB2 := hide hb2
      clear hown hb2 hRD m0 m5
      go_wp2
      go_ret
      rw [HR.out]
      exact ⟨_, rfl, owns_up HO.out HB.out.size, HB.out.trans (HB2.out.mono HB.out.size)⟩
    · have hkb : (m.kind == 102) = false := by rw [beq_eq_false_iff_ne]; exact h102
      have HR : Hid (rulesD L k = []) := by unfold Hid rulesD; rw [hk]; dsimp only; rw [hf]; dsimp only; rw [hm]; dsimp only; rw [if_neg h102]
      clear hk hf hkc hrow hS hT hm hch hG h102
      go_enter Tryz.func18, Tryz.ntmps18
      go_wp2_with fail
      refine hFI.mono ?_
      rintro e w1 ⟨rfl, hb1⟩
      obtain ⟨_, _, _, _, hge, _, _, ⟨m0, m1, m2, m3, m4, m5, m6⟩, _⟩ := (HROW.out.below (hb1.mono hC)).at HM.out
      cases hge
      have HB := hide hb1
      clear hb1 hFI m1 m2 m3 m4 m5 m6
      go_wp2
      go_ret
      rw [HR.out]
      exact ⟨_, rfl, World.ownsRow_nil _ _ _ _, HB.out⟩
end Go.Proofs.YtjbdoeoimodhkaaGreatDoor
