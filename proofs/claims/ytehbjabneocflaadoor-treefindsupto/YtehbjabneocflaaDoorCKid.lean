/- The program's finder: kid. -/
import Derived.Test.YtehbjabneocflaaDoorRefFind
namespace Go.Proofs.YtehbjabneocflaaDoor
open Go.RowKit

/-- The three errors that Find's own functions tell, in the package's variables. -/
def Errs (T : Nat) (a6 a7 a9 : Addr) (W : World) : Prop := W.cell? ⟨0, 0, none⟩ = some (.iface T (.pointer (some a6))) ∧ W.cell? ⟨1, 0, none⟩ = some (.iface T (.pointer (some a7))) ∧ W.cell? ⟨6, 0, none⟩ = some (.iface T (.pointer (some a9)))
theorem Errs.below {T C : Nat} {a6 a7 a9 : Addr} {W W' : World} (h : Errs T a6 a7 a9 W) (hb : Below C W W') (hC : 6 < C) : Errs T a6 a7 a9 W' :=
  ⟨(hb.cell (p := ⟨0, 0, none⟩) (by show 0 < C; omega)).trans h.1, (hb.cell (p := ⟨1, 0, none⟩) (by show 1 < C; omega)).trans h.2.1, (hb.cell (p := ⟨6, 0, none⟩) (by show 6 < C; omega)).trans h.2.2⟩
theorem Errs.grown {T b : Nat} {a6 a7 a9 : Addr} {W W' : World} (h : Errs T a6 a7 a9 W) (hg : W.grownBy W' (some b)) (hb : 6 < b) : Errs T a6 a7 a9 W' :=
  ⟨hg.cell h.1 (fun e => by have := Option.some.inj e; simp at this; omega), hg.cell h.2.1 (fun e => by have := Option.some.inj e; simp at this; omega), hg.cell h.2.2 (fun e => by have := Option.some.inj e; simp at this; omega)⟩
def errV (T : Nat) (a6 a7 a9 : Addr) (e : Int) : Value := if e = 0 then .nilIface else .iface T (.pointer (some (if e = 6 then a6 else if e = 7 then a7 else a9)))
def ErrPost (T : Nat) (a6 a7 a9 : Addr) (x : Nat) (er : Int) (w : World) (e : Ending) (w' : World) : Prop := e = .returned (.tuple #[.int .i64 (x : Int), errV T a6 a7 a9 er]) ∧ Below w.heap.size w w'

def kidNo (x : Int) : Nat := if x = -1 then 0 else x.toNat
def kidEr (x : Int) : Int := if x = -1 then 6 else 0
theorem ckid_none {T : Nat} {a6 a7 a9 : Addr} {x : Int} {w w' : World} (h : x = -1) (hb : Below w.heap.size w w') : ErrPost T a6 a7 a9 (kidNo x) (kidEr x) w (.returned (.tuple #[.int .i64 0, .iface T (.pointer (some a6))])) w' := by
  subst h
  exact ⟨rfl, hb⟩
theorem ckid_hit {T : Nat} {a6 a7 a9 : Addr} {x : Int} {c : Nat} {w w' : World} (h : x = (c : Int)) (hb : Below w.heap.size w w') : ErrPost T a6 a7 a9 (kidNo x) (kidEr x) w (.returned (.tuple #[.int .i64 (c : Int), .nilIface])) w' := by
  subst h
  unfold kidNo kidEr
  rw [if_neg (by omega), if_neg (by omega), Int.toNat_natCast]
  exact ⟨rfl, hb⟩

set_option maxRecDepth 100000 in
set_option maxHeartbeats 2000000 in
theorem ckid_any (T : Nat) (a6 a7 a9 : Addr) (C b : Nat) (v : Value) (L : List NodeD) (k : Nat) (n : NodeD) (kv : Value) (name : ByteArray) (links : Nat) (w : World) (hL : L.length ≤ 1000) (hrow : NodeRow C w v L) (hC : C ≤ w.heap.size) (hfb : FB 57 w b v links) (herr : Errs T a6 a7 a9 w) (h6 : 6 < w.heap.size)
    (hk : L[k]? = some n) (hint : IntRow C w kv n.kids) (hkids : ∀ c ∈ n.kids, c < L.length) (hkl : n.kids.length ≤ 1000) :
    Calls Tryd.prog 56 #[.pointer (some ⟨b, 0, none⟩), .agg #[.int .u8 n.kind, .string n.name, .int .i64 n.up, .int .i64 n.size, .int .i64 n.time, .string n.text, kv], .string name] w
      (ErrPost T a6 a7 a9 (kidNo (kidOf L n.kids name)) (kidEr (kidOf L n.kids name)) w) := by
  have hkl2 := (List.getElem?_eq_some_iff.1 hk).1
  have hbw := hfb.lt
  obtain ⟨g, cap, rfl, hg, hcap, hx⟩ : ∃ g cap, v = .slice (some ⟨g, 0, none⟩) L.length cap ∧ g < C ∧ L.length ≤ cap ∧ ∀ (i : Nat) (n : NodeD), L[i]? = some n → ∃ kv, NodeAt w g i n kv ∧ IntRow C w kv n.kids := by
    rcases hrow with ⟨_, rfl⟩ | h
    · simp at hkl2
    · exact h
  have h1 : ∀ c, c < L.length → ∃ m, L[c]? = some m ∧ w.cell? ⟨g, c * 7 + 1, none⟩ = some (.string m.name) := by
    intro c hc
    obtain ⟨m, hm⟩ : ∃ m, L[c]? = some m := ⟨_, List.getElem?_eq_getElem hc⟩
    obtain ⟨kv, ha, _⟩ := hx c m hm
    exact ⟨m, hm, ha.2.1⟩
  obtain ⟨W0, hW0⟩ : ∃ W0, w.alloc (.cells #[.int .u8 n.kind, .string n.name, .int .i64 n.up, .int .i64 n.size, .int .i64 n.time, .string n.text, kv] 55) = W0 := ⟨_, rfl⟩
  have hbl0 : Below w.heap.size w W0 := by rw [← hW0]; exact (Below.refl _ _).alloc (Nat.le_refl _) _
  have h66 : W0.cell? ⟨w.heap.size, 6, none⟩ = some kv := by rw [← hW0, World.cell?_alloc_at _ _ _ _ rfl]; rfl
  have e0 := (herr.below hbl0 h6).1
  have c0 := (hfb.below hbl0 hbw).c0
  have HH1 : Hid (∀ c, c < L.length → ∃ m, L[c]? = some m ∧ W0.cell? ⟨g, c * 7 + 1, none⟩ = some (.string m.name)) := by
    intro c hc
    obtain ⟨m, hm, hn⟩ := h1 c hc
    exact ⟨m, hm, (hbl0.cell (p := ⟨g, c * 7 + 1, none⟩) (by show g < _; omega)).trans hn⟩
  have hint0 : IntRow C W0 kv n.kids := hint.below (hbl0.mono hC)
  have HW := hide hW0
  clear hx h1 hint hrow hfb herr
  go_enter Tryd.func56, Tryd.ntmps56
  rcases hint0 with ⟨rfl, he⟩ | ⟨g2, cap2, rfl, hg2, hcap2, hx2⟩
  · have HE : Hid (kidOf L n.kids name = -1) := by rw [he]; rfl
    clear he hW0
    go_wp2
    rw [unhide HW]
    refine wp_loop_rounds 1 ?_
    rw [rounds_succ]
    go_wp2
    go_quiet (fail)
    go_wp2
    go_ret2
    exact ckid_none HE.out (below_drewN hbl0 nq)
  · clear hW0
    go_wp2
    rw [unhide HW]
    have hbn : ∀ c : Nat, c < L.length → ((0 : Int) ≤ (c : Int) ∧ (c : Int) < (L.length : Int)) := fun c hc => by omega
    go_loop [13] (fun iv => ∃ j : Nat, j ≤ n.kids.length ∧ iv = .int .i64 j ∧ ∀ x ∈ n.kids.take j, nameIs L name x = false) (fun iv => n.kids.length - (intOf iv).toNat)
    case atStart => exact ⟨0, Nat.zero_le _, rfl, by simp⟩
    case round =>
      obtain ⟨j, hj, rfl, hno⟩ := hrel
      by_cases hlt : j < n.kids.length
      · obtain ⟨c, hc⟩ : ∃ c, n.kids[j]? = some c := ⟨_, List.getElem?_eq_getElem hlt⟩
        have hcl := hkids c (List.mem_of_getElem? hc)
        have hc2 := hx2 j c hc
        obtain ⟨m, hm, hmn⟩ := (unhide HH1) c hcl
        have HN : Hid (nameIs L name c = (m.name.toList == name.toList)) := by unfold Hid nameIs; rw [hm]
        have HNO : Hid (∀ x ∈ n.kids.take j, nameIs L name x = false) := hno
        have HC : Hid (n.kids[j]? = some c) := hc
        have hcl2 : (c : Int) < (L.length : Int) := by omega
        clear hno hc hx2 hm hkids hbn
        cases hE : (m.name.toList == name.toList)
        · go_wp2
          go_round
          case rel => exact ⟨j + 1, by omega, by go_num, take_more HC.out HNO.out (by rw [HN.out, hE])⟩
          case measure => simp [intOf]; omega
        · go_wp2
          go_ret2
          exact ckid_hit (kidOf_hit HC.out HNO.out (by rw [HN.out, hE])) hbl0
      · obtain rfl : j = n.kids.length := by omega
        have HE : Hid (kidOf L n.kids name = -1) := kidOf_none (by rw [List.take_length] at hno; exact hno)
        clear hno hx2 hbn
        go_wp2
        go_quiet (fail)
        go_wp2
        go_ret2
        exact ckid_none HE.out (below_drewN hbl0 nq)
end Go.Proofs.YtehbjabneocflaaDoor
