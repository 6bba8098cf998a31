/- Walk: what is wanted by -true. -/
import Derived.Test.YtfemboojdablhaaGreatDoorWkL
import Derived.Laws.EntriesVeiled
namespace Go.Proofs.YtfemboojdablhaaGreatDoor.Tre
open Go.RowKit Go.Shelf
variable {L : List NodeD} {c : Cf} {gone nn : Nat} {out : List UInt8} {ab : List Bool} {pv bv tv : Value} {W W' : World}

theorem quest1_any (vb : Nat) (w : World) : Calls Tryz.prog 95 #[.pointer (some ⟨vb, 0, none⟩)] w fun e w' => e = .returned (.bool true) ∧ w' = w := by
  go_enter Tryz.func95, Tryz.ntmps95
  go_wp2
  go_ret
  exact ⟨rfl, rfl⟩
/-- The functions of the test -true, and that which prints. -/
structure JTrue (c : Cf) (kr wb eb : Nat) (D E : Nat → Prop) (w : World) : Prop where
  hkb : w.heap[c.kb]? = some (.cells #[.slice (some ⟨kr, 0, none⟩) 2 2] 97 (0, 0))
  hkr : w.heap[kr]? = some (.cells #[.func (.func 95) #[] #[], .func (.func 70) #[] #[.pointer (some ⟨wb, 0, none⟩), .pointer (some ⟨eb, 0, none⟩)]] 85 (0, 0))
  pr : PrB w c.b wb eb
  nk : ¬ D c.kb
  nr : ¬ D kr
  nw : ¬ D wb
  ne : ¬ D eb
  hE : ∀ k, ¬ E k
theorem jtrue_stab (c : Cf) (kr wb eb : Nat) : Stab (JTrue c kr wb eb) := by
  intro D D' E w w' h hT
  have keep : ∀ k, k < w.heap.size → ¬ D k → w'.heap[k]? = w.heap[k]? ∧ ¬ D' k := fun k hk hd => ⟨hT.block k hk hd, fun q => by rcases hT.new k q with a | a; exact hd a; omega⟩
  have lt : ∀ {k : Nat} {a : Array Value} {t : TypeId} {y : Nat × Nat}, w.heap[k]? = some (.cells a t y) → k < w.heap.size := fun h => (Array.getElem?_eq_some_iff.1 h).1
  obtain ⟨a1, a2⟩ := keep _ (lt h.hkb) h.nk
  obtain ⟨b1, b2⟩ := keep _ (lt h.hkr) h.nr
  obtain ⟨c1, c2⟩ := keep _ (lt h.pr.w) h.nw
  obtain ⟨d1, d2⟩ := keep _ (lt h.pr.e) h.ne
  exact ⟨a1.trans h.hkb, b1.trans h.hkr, ⟨c1.trans h.pr.w, d1.trans h.pr.e⟩, a2, b2, c2, d2, h.hE⟩
set_option maxRecDepth 100000 in
set_option maxHeartbeats 2000000 in
theorem jtrue_wnt (L : List NodeD) (c : Cf) (kr wb eb : Nat) : Wnt L c (fun _ => true) (JTrue c kr wb eb) := by
  intro vb k p d n kv gone nn out ab pv bv tv E w h hj hv hE hn hlen h0
  have c0 : w.cell? ⟨c.kb, 0, none⟩ = some (.slice (some ⟨kr, 0, none⟩) 2 2) := one_cell hj.hkb
  have c1 : w.cell? ⟨kr, 0, none⟩ = some (.func (.func 95) #[] #[]) := by rw [Lib.cell_of_heap hj.hkr]; rfl
  have c2 : w.cell? ⟨kr, 1, none⟩ = some (.func (.func 70) #[] #[.pointer (some ⟨wb, 0, none⟩), .pointer (some ⟨eb, 0, none⟩)]) := by rw [Lib.cell_of_heap hj.hkr]; rfl
  have HP := hide (print1_any wb eb vb k p d n kv w h hj.pr hv hj.nw hj.ne hlen h0)
  have HQ := hide (quest1_any vb w)
  have HJ := hide hj
  clear h hj hv
  go_enter Tryz.func69, Tryz.ntmps69
  go_wp2
  refine wp_loop_rounds 3 ?_
  rw [rounds_succ]
  go_wp2_with fail
  refine HQ.out.mono ?_
  rintro e w1 ⟨rfl, rfl⟩
  go_wp2
  rw [rounds_succ]
  go_wp2_with fail
  refine HP.out.mono ?_
  rintro e w2 ⟨rfl, pv', bv', h2, hT2⟩
  have HX := hide (⟨h2, hT2⟩ : _ ∧ _)
  clear h2 hT2
  go_wp2
  rw [rounds_succ]
  go_wp2
  go_ret
  obtain ⟨h2, hT2⟩ := HX.out
  exact ⟨⟨_, rfl⟩, pv', bv', E, h2, jtrue_stab c kr wb eb _ _ _ _ _ HJ.out hT2, withE hT2⟩
theorem jtrue_asks (L : List NodeD) (c : Cf) (kr wb eb : Nat) (hms : (1000 : Int) ≤ c.ms) : Asks L c (fun _ => true) (JTrue c kr wb eb) :=
  ⟨jtrue_wnt L c kr wb eb, jtrue_stab c kr wb eb, fun _ _ _ h k hk => absurd hk (h.hE k), fun _ _ _ h k hk => absurd hk (h.hE k), hms⟩

set_option maxRecDepth 100000 in
set_option maxHeartbeats 2000000 in
theorem acts_true (w : World) : Calls Tryz.prog 39 #[trueV] w fun e w' => e = .returned (.bool false) ∧ Below w.heap.size w w' := by
  go_enter Tryz.func39, Tryz.ntmps39
  go_wp2
  refine wp_loop_rounds 2 ?_
  rw [rounds_succ]
  go_wp2_with (go_at_call 68; refine (isAction_true _).mono ?_; rintro e w1 ⟨rfl, rfl⟩)
  go_region
  all_goals go_wp2
  all_goals rw [rounds_succ]
  all_goals go_wp2
  all_goals go_ret
  all_goals refine ⟨rfl, ?_⟩
  all_goals (repeat first | exact Below.refl _ _ | refine Below.drew ?_ | refine Below.setCell ?_ (by first | omega | (simp; done) | (simp; omega)) _ | refine Below.alloc ?_ (by first | omega | (simp; done) | (simp; omega)) _)

set_option maxRecDepth 100000 in
set_option maxHeartbeats 2000000 in
theorem wanswers1 (f : Fn) (xs ys : Array Value) (w : World) : Calls Tryz.prog 50 #[.func f xs ys] w fun e w' => (∃ p q : Nat, e = .returned (.func (.func 83) #[] #[.pointer (some ⟨p, 0, none⟩), .pointer (some ⟨q, 0, none⟩)])) ∧ Below w.heap.size w w' := by
  have hmk : ∀ w, (Instr.makeMap 139 none).run Tryz.prog w = .ok (.map (some w.heap.size)) (w.alloc (.map #[] 0)) := fun w => by kernel_rfl
  go_enter Tryz.func50, Tryz.ntmps50
  go_wp2
  go_ret
  refine ⟨⟨_, _, rfl⟩, ?_⟩
  repeat first | exact Below.refl _ _ | refine Below.drew ?_ | refine Below.setCell ?_ (by first | omega | (simp; done) | (simp; omega)) _ | refine Below.alloc ?_ (by first | omega | (simp; done) | (simp; omega)) _
set_option maxRecDepth 100000 in
set_option maxHeartbeats 2000000 in
theorem wanswers2 (f : Fn) (xs ys : Array Value) (w : World) : Calls Tryz.prog 53 #[.func f xs ys] w fun e w' => (∃ p q : Nat, e = .returned (.func (.func 85) #[] #[.pointer (some ⟨p, 0, none⟩), .pointer (some ⟨q, 0, none⟩)])) ∧ Below w.heap.size w w' := by
  have hmk : ∀ w, (Instr.makeMap 144 none).run Tryz.prog w = .ok (.map (some w.heap.size)) (w.alloc (.map #[] 0)) := fun w => by kernel_rfl
  go_enter Tryz.func53, Tryz.ntmps53
  go_wp2
  go_ret
  refine ⟨⟨_, _, rfl⟩, ?_⟩
  repeat first | exact Below.refl _ _ | refine Below.drew ?_ | refine Below.setCell ?_ (by first | omega | (simp; done) | (simp; omega)) _ | refine Below.alloc ?_ (by first | omega | (simp; done) | (simp; omega)) _
set_option maxRecDepth 100000 in
set_option maxHeartbeats 2000000 in
theorem wasker (a : Option Addr) (n c : Nat) (w : World) : Calls Tryz.prog 30 #[.slice a n c] w fun e w' => (∃ p q : Nat, e = .returned (.func (.func 56) #[] #[.pointer (some ⟨p, 0, none⟩), .pointer (some ⟨q, 0, none⟩)])) ∧ Below w.heap.size w w' := by
  obtain ⟨W0, hW0⟩ : ∃ W0, (w.alloc (.cells #[.slice a n c] 31)) = W0 := ⟨_, rfl⟩
  have HB0 : Hid (Below w.heap.size w W0) := by rw [← hW0]; exact (Below.refl _ _).alloc (Nat.le_refl _) _
  go_enter Tryz.func30, Tryz.ntmps30
  go_wp2_with (rw [hW0])
  go_wp2_with fail
  refine (wanswers1 _ _ _ _).mono ?_
  rintro e w1 ⟨⟨p1, q1, rfl⟩, hb1⟩
  have HB1 : Hid (Below w.heap.size w w1) := HB0.out.trans (hb1.mono HB0.out.size)
  clear hb1
  go_wp2_with fail
  refine (wanswers2 _ _ _ _).mono ?_
  rintro e w2 ⟨⟨p2, q2, rfl⟩, hb2⟩
  have hs1 := HB1.out.size
  have HB2 : Hid (Below w.heap.size w w2) := by
    refine Below.trans ?_ (hb2.mono (by simp; omega))
    refine HB1.out.trans ?_
    repeat first | exact Below.refl _ _ | refine Below.drew ?_ | refine Below.setCell ?_ (by first | omega | (simp; done) | (simp; omega)) _ | refine Below.alloc ?_ (by first | omega | (simp; done) | (simp; omega)) _
  have hs2 := HB2.out.size
  clear hb2
  go_wp2
  go_ret
  refine ⟨⟨_, _, rfl⟩, ?_⟩
  refine HB2.out.trans ?_
  repeat first | exact Below.refl _ _ | refine Below.drew ?_ | refine Below.setCell ?_ (by first | omega | (simp; done) | (simp; omega)) _ | refine Below.alloc ?_ (by first | omega | (simp; done) | (simp; omega)) _
set_option maxRecDepth 100000 in
set_option maxHeartbeats 2000000 in
theorem wignored (a : Option Addr) (n c : Nat) (w : World) : Calls Tryz.prog 37 #[.slice a n c] w fun e w' => (∃ p : Nat, e = .returned (.func (.func 60) #[] #[.pointer (some ⟨p, 0, none⟩)])) ∧ Below w.heap.size w w' := by
  go_enter Tryz.func37, Tryz.ntmps37
  go_wp2_with fail
  refine (wasker _ _ _ _).mono ?_
  rintro e w1 ⟨⟨p1, q1, rfl⟩, hb1⟩
  have HB1 := hide hb1
  clear hb1
  go_wp2_with fail
  refine (wanswers2 _ _ _ _).mono ?_
  rintro e w2 ⟨⟨p2, q2, rfl⟩, hb2⟩
  have hs1 := HB1.out.size
  have HB2 : Hid (Below w.heap.size w w2) := HB1.out.trans (hb2.mono hs1)
  have hs2 := HB2.out.size
  clear hb2
  go_wp2
  go_ret
  refine ⟨⟨_, rfl⟩, ?_⟩
  refine HB2.out.trans ?_
  repeat first | exact Below.refl _ _ | refine Below.drew ?_ | refine Below.setCell ?_ (by first | omega | (simp; done) | (simp; omega)) _ | refine Below.alloc ?_ (by first | omega | (simp; done) | (simp; omega)) _
end Go.Proofs.YtfemboojdablhaaGreatDoor.Tre
