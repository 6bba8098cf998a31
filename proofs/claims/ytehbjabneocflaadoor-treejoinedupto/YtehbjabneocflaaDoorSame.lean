/- The law's helpers: same, num, sameNodes. -/
import Derived.Test.YtehbjabneocflaaDoorTFind
namespace Go.Proofs.YtehbjabneocflaaDoor
open Go.RowKit
theorem IntRow.form {C : Nat} {W : World} {v : Value} {ks : List Nat} (h : IntRow C W v ks) : ∃ a cap, v = .slice a ks.length cap ∧ ∀ (j k : Nat), ks[j]? = some k → ∃ g, a = some ⟨g, 0, none⟩ ∧ ks.length ≤ cap ∧ W.cell? ⟨g, j, none⟩ = some (.int .i64 (k : Int)) := by
  rcases h with ⟨rfl, rfl⟩ | ⟨g, cap, rfl, _, hc, hx⟩
  · exact ⟨_, _, rfl, fun j k h => by simp at h⟩
  · exact ⟨_, _, rfl, fun j k h => ⟨g, rfl, hc, hx j k h⟩⟩
set_option maxHeartbeats 1000000 in
theorem same_any (C D : Nat) (v u : Value) (ks : List Nat) (w : World) (hl : ks.length ≤ 1000) (hv : IntRow C w v ks) (hu : IntRow D w u ks) :
    Calls Tryd.prog 30 #[v, u] w fun e w' => e = .returned (.bool true) ∧ ∃ n, w' = w.drewN n := by
  obtain ⟨a, ca, rfl, hxa⟩ := hv.form
  obtain ⟨b, cb, rfl, hxb⟩ := hu.form
  clear hv hu
  go_enter Tryd.func30, Tryd.ntmps30
  go_wp2
  go_loopw [5] (fun iv wr => ∃ k n : Nat, k ≤ ks.length ∧ iv = .int .i64 k ∧ wr = w.drewN n) (fun iv _ => ks.length - (intOf iv).toNat)
  case atStart => exact ⟨0, 0, Nat.zero_le _, rfl, rfl⟩
  case round =>
    obtain ⟨k, n, hk, rfl, rfl⟩ := hrel
    by_cases hlt : k < ks.length
    · obtain ⟨x, hx⟩ : ∃ x, ks[k]? = some x := ⟨_, List.getElem?_eq_getElem hlt⟩
      obtain ⟨ga, rfl, hca, c1⟩ := hxa k x hx
      obtain ⟨gb, rfl, hcb, c2⟩ := hxb k x hx
      clear hxa hxb hx
      go_wp2
      go_quiet (fail)
      go_wp2
      go_roundw
      case rel => exact ⟨k + 1, n + nq, by omega, by go_num, rfl⟩
      case measure => simp [intOf]; omega
    · obtain rfl : k = ks.length := by omega
      clear hxa hxb
      go_wp2
      go_ret
      exact ⟨rfl, n, rfl⟩
set_option maxRecDepth 100000 in
set_option maxHeartbeats 1000000 in
theorem lawnum_any (x : Int) (w : World) (hx : x = 0 ∨ x = 6 ∨ x = 7 ∨ x = 9) : Calls Tryd.prog 19 #[.int .i64 x] w fun e w' => e = .returned (.int .i64 x) ∧ w' = w := by
  rcases hx with rfl | rfl | rfl | rfl
  all_goals
    go_enter Tryd.func19, Tryd.ntmps19
    go_wp2
    go_ret
    exact ⟨rfl, rfl⟩

theorem NodeRow.at {C : Nat} {W : World} {a : Option Addr} {m cap : Nat} {L : List NodeD} (h : NodeRow C W (.slice a m cap) L) {i : Nat} {n : NodeD} (hi : L[i]? = some n) : ∃ g ka km kc, a = some ⟨g, 0, none⟩ ∧ g < C ∧ L.length ≤ cap ∧ NodeAt W g i n (.slice ka km kc) ∧ IntRow C W (.slice ka km kc) n.kids := by
  rcases h with ⟨_, rfl⟩ | ⟨g, cap', e, hg, hc, hx⟩
  · simp at hi
  · cases e
    obtain ⟨kv, h1, h2⟩ := hx i n hi
    obtain ⟨ka, kc, rfl, _⟩ := h2.form
    exact ⟨g, ka, _, kc, rfl, hg, hc, h1, h2⟩
theorem box7 {W : World} {b t : Nat} {x0 x1 x2 x3 x4 x5 x6 : Value} (h : W.heap[b]? = some (.cells #[x0, x1, x2, x3, x4, x5, x6] t)) :
    W.cell? ⟨b, 0, none⟩ = some x0 ∧ W.cell? ⟨b, 1, none⟩ = some x1 ∧ W.cell? ⟨b, 2, none⟩ = some x2 ∧ W.cell? ⟨b, 3, none⟩ = some x3 ∧ W.cell? ⟨b, 4, none⟩ = some x4 ∧ W.cell? ⟨b, 5, none⟩ = some x5 ∧ W.cell? ⟨b, 6, none⟩ = some x6 := by
  simp [World.cell?, h]
set_option maxRecDepth 100000 in
set_option maxHeartbeats 2000000 in
theorem sameNodes_any (C D : Nat) (v u : Value) (L : List NodeD) (w : World) (hl : L.length ≤ 201) (hk : ∀ (i : Nat) (n : NodeD), L[i]? = some n → n.kids.length ≤ 1000) (hv : NodeRow C w v L) (hu : NodeRow D w u L) (hC : C ≤ w.heap.size) (hD : D ≤ w.heap.size) :
    Calls Tryd.prog 18 #[v, u] w fun e w' => e = .returned (.bool true) ∧ Below w.heap.size w w' := by
  obtain ⟨a, ca, rfl⟩ := hv.form
  obtain ⟨b, cb, rfl⟩ := hu.form
  have HV := hide hv
  have HU := hide hu
  have HK := hide hk
  clear hv hu hk
  go_enter Tryd.func18, Tryd.ntmps18
  go_wp2
  go_loopw [5] (fun iv wr => ∃ k : Nat, k ≤ L.length ∧ iv = .int .i64 k ∧ Below w.heap.size w wr) (fun iv _ => L.length - (intOf iv).toNat)
  case atStart => exact ⟨0, Nat.zero_le _, rfl, Below.refl _ _⟩
  case round =>
    obtain ⟨k, hk, rfl, hbl⟩ := hrel
    by_cases hlt : k < L.length
    · obtain ⟨x, hx⟩ : ∃ x, L[k]? = some x := ⟨_, List.getElem?_eq_getElem hlt⟩
      have hkx := unhide HK k x hx
      obtain ⟨ga, ka, km, kc, rfl, hga, hca, ⟨p0, p1, p2, p3, p4, p5, p6⟩, hra⟩ := ((unhide HV).below (hbl.mono hC)).at hx
      obtain ⟨gb, ja, jm, jc, rfl, hgb, hcb, ⟨q0, q1, q2, q3, q4, q5, q6⟩, hrb⟩ := ((unhide HU).below (hbl.mono hD)).at hx
      have HA := hide hra
      have HB := hide hrb
      have hsz := hbl.size
      clear hra hrb hx
      have up : ∀ (o : Obj) (j : Nat) (z : Value), wr.cell? ⟨gb, j, none⟩ = some z → (wr.alloc o).cell? ⟨gb, j, none⟩ = some z := fun o j z h => ((Below.refl wr.heap.size wr).alloc (Nat.le_refl _) o |>.cell (p := ⟨gb, j, none⟩) (by show gb < _; omega)).trans h
      have r0 := fun o => up o _ _ q0
      have r1 := fun o => up o _ _ q1
      have r2 := fun o => up o _ _ q2
      have r3 := fun o => up o _ _ q3
      have r4 := fun o => up o _ _ q4
      have r5 := fun o => up o _ _ q5
      have r6 := fun o => up o _ _ q6
      clear up q0 q1 q2 q3 q4 q5 q6
      go_wp2_with fail
      obtain ⟨W1, hW1⟩ : ∃ W1, wr.alloc (.cells #[.int .u8 x.kind, .string x.name, .int .i64 x.up, .int .i64 x.size, .int .i64 x.time, .string x.text, .slice ka km kc] 55) = W1 := ⟨_, rfl⟩
      rw [hW1]
      have hb1 : W1.heap[wr.heap.size]? = some (.cells #[.int .u8 x.kind, .string x.name, .int .i64 x.up, .int .i64 x.size, .int .i64 x.time, .string x.text, .slice ka km kc] 55) := by rw [← hW1]; exact World.alloc_heap_new _ _
      have hl1 : Below wr.heap.size wr W1 := by rw [← hW1]; exact (Below.refl _ _).alloc (Nat.le_refl _) _
      have hz1 : W1.heap.size = wr.heap.size + 1 := by rw [← hW1]; simp
      obtain ⟨W2, hW2⟩ : ∃ W2, W1.alloc (.cells #[.int .u8 x.kind, .string x.name, .int .i64 x.up, .int .i64 x.size, .int .i64 x.time, .string x.text, .slice ja jm jc] 44) = W2 := ⟨_, rfl⟩
      rw [hW2]
      have hb2 : W2.heap[wr.heap.size + 1]? = some (.cells #[.int .u8 x.kind, .string x.name, .int .i64 x.up, .int .i64 x.size, .int .i64 x.time, .string x.text, .slice ja jm jc] 44) := by rw [← hW2, ← hz1]; exact World.alloc_heap_new _ _
      have hl2 : Below W1.heap.size W1 W2 := by rw [← hW2]; exact (Below.refl _ _).alloc (Nat.le_refl _) _
      have hl2' : Below wr.heap.size wr W2 := hl1.trans (hl2.mono (by omega))
      have hb1' := (hl2.block wr.heap.size (by omega)).trans hb1
      obtain ⟨b0, b1, b2, b3, b4, b5, b6⟩ := box7 hb1'
      obtain ⟨d0, d1, d2, d3, d4, d5, d6⟩ := box7 hb2
      clear hW1 hW2 hb1 hb2 hl1 hl2 hz1 hb1' r0 r1 r2 r3 r4 r5 r6 p0 p1 p2 p3 p4 p5 p6
      refine (same_any C D _ _ x.kids W2 hkx ((unhide HA).below (hl2'.mono (by omega))) ((unhide HB).below (hl2'.mono (by omega)))).mono ?_
      rintro e w3 ⟨rfl, n3, rfl⟩
      go_wp2
      go_roundw
      case rel => exact ⟨k + 1, by omega, by go_num, below_drewN (hbl.trans (hl2'.mono hsz)) n3⟩
      case measure => simp [intOf]; omega
    · obtain rfl : k = L.length := by omega
      go_wp2
      go_ret
      exact ⟨rfl, hbl⟩
end Go.Proofs.YtehbjabneocflaaDoor
