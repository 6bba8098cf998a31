/- Merged: AGrow, ALink, AFrom. -/
import Derived.Test.YtdlljlmgoiobpaaGreatDoorASet
import Derived.Deep.AppendLies
import Derived.RangeFuncBox
import Derived.Deep.RegionLaw
import Derived.RangeFuncLeaves
import Derived.Shelf.Abstract
import Derived.OwnWalkIn
import Derived.TacticsInMore
import Derived.LoopNIn
import Derived.LoopIn
import Derived.Shelf.RegionOpen
import Derived.RangeFuncNested
/- The program's states: grow, link. -/
namespace Go.Proofs.YtdlljlmgoiobpaaGreatDoor
open Go.RowKit

theorem Tryz.info3 : (Tryz.prog.info? 3).map (fun i => (i.zero, i.size, i.bytes)) = some (some (.int .i64 0), 1, 8) := by kernel_rfl
/-- The builder: states' ways out, ways, sets of bytes; start, end; what is to be laid; which sets are known. -/
def BBox (W : World) (b : Nat) (ov wv yv : Value) (st en : Int) (pv kv : Value) : Prop := W.heap[b]? = some (.cells #[ov, wv, yv, .int .i64 st, .int .i64 en, pv, kv] 75)
theorem BBox.cells {W : World} {b : Nat} {ov wv yv : Value} {st en : Int} {pv kv : Value} (h : BBox W b ov wv yv st en pv kv) :
    W.cell? ⟨b, 0, none⟩ = some ov ∧ W.cell? ⟨b, 1, none⟩ = some wv ∧ W.cell? ⟨b, 2, none⟩ = some yv ∧ W.cell? ⟨b, 3, none⟩ = some (.int .i64 st) ∧ W.cell? ⟨b, 4, none⟩ = some (.int .i64 en) ∧ W.cell? ⟨b, 5, none⟩ = some pv ∧ W.cell? ⟨b, 6, none⟩ = some kv ∧ ∀ j, W.frozen? ⟨b, j, none⟩ = false := by
  unfold BBox at h
  simp [World.cell?, World.frozen?, h]
def i64s (xs : List Int) : List Value := xs.map fun (x : Int) => Value.int .i64 x
/-- Two blocks may have been written, and new ones laid. -/
structure Grow2 (w w' : World) (p q : Option Nat) : Prop where
  os : w'.os = w.os
  tape : w'.tape = w.tape
  output : w'.output = w.output
  size : w.heap.size ≤ w'.heap.size
  block : ∀ k, k < w.heap.size → some k ≠ p → some k ≠ q → w'.heap[k]? = w.heap[k]?
theorem Grow2.owns {w w' : World} {p q : Option Nat} (h : Grow2 w w' p q) {B t size n : Nat} {v : Value} {xs : List Value} (ho : w.ownsRow B t size v n xs) (hp : ∀ g, v.ownBlock = some g → some g ≠ p ∧ some g ≠ q) : w'.ownsRow B t size v n xs := by
  refine ⟨ho.1, ?_⟩
  rcases ho.2 with h2 | ⟨g, cap, cur, e, hbb, hg, r⟩
  · exact .inl h2
  · have hne := hp g (by rw [e]; rfl)
    exact .inr ⟨g, cap, cur, e, hbb, (h.block g (Array.getElem?_eq_some_iff.1 hg).1 hne.1 hne.2).trans hg, r⟩
theorem Grow2.below {w w' : World} {p q : Option Nat} (h : Grow2 w w' p q) {C : Nat} (hC : C ≤ w.heap.size) (hp : ∀ g, p = some g → C ≤ g) (hq : ∀ g, q = some g → C ≤ g) : Below C w w' :=
  ⟨h.os, h.tape, h.output, h.size, fun k hk => h.block k (by omega) (fun e => by have := hp k e.symm; omega) (fun e => by have := hq k e.symm; omega)⟩
theorem own_not_box {B t size n b : Nat} {W : World} {v : Value} {xs : List Value} {t' : TypeId} {cur' : Array Value} (ho : W.ownsRow B t size v n xs) (hb : W.heap[b]? = some (.cells cur' t')) (hne : t ≠ t') : v.ownBlock ≠ some b := by
  intro e
  rcases ho.2 with ⟨rfl, _⟩ | ⟨g, cap, cur, rfl, _, hg, _⟩
  · cases e
  · simp only [Value.ownBlock, Option.some.injEq] at e
    subst e
    rw [hb] at hg
    cases hg
    exact hne rfl
theorem i64s_push {B : Nat} {w1 : World} {v' : Value} {xs : List Int} {x : Int} (h : w1.ownsRow B 3 1 v' (xs.length + 1) (i64s xs ++ [Value.int .i64 x])) :
    w1.ownsRow B 3 1 v' (xs ++ [x]).length (i64s (xs ++ [x])) := by
  unfold i64s at h ⊢
  rw [List.length_append, List.map_append]; exact h
theorem BBox.set {W : World} {b : Nat} {ov wv yv : Value} {st en : Int} {pv kv : Value} (h : BBox W b ov wv yv st en pv kv) (u : Value) : BBox (W.setCell ⟨b, 0, none⟩ u) b u wv yv st en pv kv := by
  obtain ⟨hlt, hk⟩ := Array.getElem?_eq_some_iff.1 h
  show (W.heap.modify b _)[b]? = _
  rw [Array.getElem?_eq_getElem (by rw [Array.size_modify]; exact hlt), Array.getElem_modify_self, hk]
  rfl
def GrowPost (B b : Nat) (ov wv yv : Value) (st en : Int) (pv kv : Value) (outs : List Int) (w : World) (e : Ending) (w' : World) : Prop :=
  e = .returned (.int .i64 (outs.length : Int)) ∧ ∃ ov', BBox w' b ov' wv yv st en pv kv ∧ w'.ownsRow B 3 1 ov' (outs ++ [-1]).length (i64s (outs ++ [-1])) ∧ Grow2 w w' (some b) ov.ownBlock
set_option maxRecDepth 100000 in
set_option maxHeartbeats 1000000 in
theorem grow_any (B b : Nat) (ov wv yv : Value) (st en : Int) (pv kv : Value) (outs : List Int) (w : World) (hbox : BBox w b ov wv yv st en pv kv) (hown : w.ownsRow B 3 1 ov outs.length (i64s outs)) (hl : outs.length ≤ 1000000000) (hB : B ≤ w.heap.size) :
    Calls Tryz.prog 23 #[.pointer (some ⟨b, 0, none⟩)] w (GrowPost B b ov wv yv st en pv kv outs w) := by
  obtain ⟨i0, hi, hz0, hz1, hz2⟩ := info_parts Tryz.info3
  obtain ⟨c0, _, _, _, _, _, _, _⟩ := hbox.cells
  have hblt : b < w.heap.size := (Array.getElem?_eq_some_iff.1 hbox).1
  have hnb := own_not_box hown hbox (by decide)
  have HBX := hide hbox
  clear hbox
  go_enter Tryz.func23, Tryz.ntmps23
  go_wp2_with (at_builtin; refine wpList_append_own _ rfl _ _ 57 rfl B 3 i0 (.int .i64 0) 1 8 Tryz.underlying57 hi hz0 hz1 hz2 rfl (by decide) _ _ _ rfl (hown.alloc _) ⟨w.heap.size, 0, none⟩ 1 1 [.int .i64 (-1)] rfl rfl (cell_one_new _ _ _) (by simp [Value.oneCell']) (by unfold maxLen; omega) (by omega) (by simp; omega) ?_)
  intro v' w1 hown' hgrow _
  obtain ⟨g', cap', rfl⟩ := ownsRow_succ hown'
  have hbx1 : BBox w1 b ov wv yv st en pv kv := (hgrow.block b (by simp; omega) (fun e => hnb e.symm)).trans ((((Below.refl w.heap.size w).alloc (Nat.le_refl _) _).block b hblt).trans HBX.out)
  obtain ⟨d0, _, _, _, _, _, _, df⟩ := hbx1.cells
  have f0 := df 0
  have HOWN := hide hown'
  have HGR := hide hgrow
  have HBX1 := hide hbx1
  clear df hown' hgrow hbx1 hown c0
  go_wp2
  go_ret
  refine ⟨rfl, _, HBX1.out.set _, ?_, ?_⟩
  · refine i64s_push (x := -1) ?_
    exact ownsRow_setCell_other HOWN.out (a := ⟨b, 0, none⟩) (own_not_box HOWN.out HBX1.out (by decide)) _
  · have h1 := HGR.out
    have hal : Below w.heap.size w (w.alloc (.cells #[.int .i64 (-1)] 3)) := (Below.refl _ _).alloc (Nat.le_refl _) _
    have h2 := set_grown w1 b 0 (Value.slice (some ⟨g', 0, none⟩) (outs.length + 1) cap')
    refine ⟨h2.os.trans (h1.os.trans hal.os), h2.tape.trans (h1.tape.trans hal.tape), h2.output.trans (h1.output.trans hal.output), Nat.le_trans hal.size (Nat.le_trans h1.size h2.size), fun k hk hp hq => ?_⟩
    have hk1 : k < (w.alloc (.cells #[.int .i64 (-1)] 3)).heap.size := Nat.lt_of_lt_of_le hk hal.size
    exact (h2.block k (Nat.lt_of_lt_of_le hk1 h1.size) hp).trans ((h1.block k hk1 hq).trans (hal.block k hk))
end Go.Proofs.YtdlljlmgoiobpaaGreatDoor
/- The program's states: link. -/
namespace Go.Proofs.YtdlljlmgoiobpaaGreatDoor
open Go.RowKit

theorem Tryz.info87 : (Tryz.prog.info? 87).map (fun i => (i.zero, i.size, i.bytes)) = some (some (.agg #[.int .i64 0, .int .i64 0, .int .i64 0]), 3, 24) := by kernel_rfl
structure WayD where
  to : Int
  by_ : Int
  then_ : Int
def way3 (x : WayD) : List Value := [.int .i64 x.to, .int .i64 x.by_, .int .i64 x.then_]
def wayL (l : List WayD) : List Value := l.flatMap way3
theorem BBox.set1 {W : World} {b : Nat} {ov wv yv : Value} {st en : Int} {pv kv : Value} (h : BBox W b ov wv yv st en pv kv) (u : Value) : BBox (W.setCell ⟨b, 1, none⟩ u) b ov u yv st en pv kv := by
  obtain ⟨hlt, hk⟩ := Array.getElem?_eq_some_iff.1 h
  show (W.heap.modify b _)[b]? = _
  rw [Array.getElem?_eq_getElem (by rw [Array.size_modify]; exact hlt), Array.getElem_modify_self, hk]
  rfl
/-- Some blocks may have been written, and new ones laid. -/
structure GrowN (w w' : World) (ex : List (Option Nat)) : Prop where
  os : w'.os = w.os
  tape : w'.tape = w.tape
  output : w'.output = w.output
  size : w.heap.size ≤ w'.heap.size
  block : ∀ k, k < w.heap.size → some k ∉ ex → w'.heap[k]? = w.heap[k]?
theorem wayL_push {B : Nat} {w1 : World} {v' : Value} {xs : List WayD} {x : WayD} (h : w1.ownsRow B 87 3 v' (xs.length + 1) (wayL xs ++ way3 x)) :
    w1.ownsRow B 87 3 v' (xs ++ [x]).length (wayL (xs ++ [x])) := by
  have e : wayL (xs ++ [x]) = wayL xs ++ way3 x := by simp [wayL]
  rw [List.length_append, e]; exact h
theorem i64s_set (xs : List Int) (i : Nat) (x : Int) : (i64s xs).set i (.int .i64 x) = i64s (xs.set i x) := by
  unfold i64s
  rw [List.map_set]
def LinkPost (B b g cap : Nat) (wv yv : Value) (st en : Int) (pv kv : Value) (outs : List Int) (ways : List WayD) (fr : Nat) (to by_ o : Int) (w : World) (e : Ending) (w' : World) : Prop :=
  e = .returned (.tuple #[]) ∧ ∃ wv', BBox w' b (.slice (some ⟨g, 0, none⟩) outs.length cap) wv' yv st en pv kv ∧ w'.ownsRow B 3 1 (.slice (some ⟨g, 0, none⟩) outs.length cap) outs.length (i64s (outs.set fr (ways.length : Int))) ∧ w'.ownsRow B 87 3 wv' (ways ++ [WayD.mk to by_ o]).length (wayL (ways ++ [WayD.mk to by_ o])) ∧ GrowN w w' [some b, some g, wv.ownBlock]
set_option maxRecDepth 100000 in
set_option maxHeartbeats 1000000 in
theorem link_any (B b g cap : Nat) (wv yv : Value) (st en : Int) (pv kv : Value) (outs : List Int) (ways : List WayD) (fr : Nat) (to by_ o : Int) (w : World) (hbox : BBox w b (.slice (some ⟨g, 0, none⟩) outs.length cap) wv yv st en pv kv) (hout : w.ownsRow B 3 1 (.slice (some ⟨g, 0, none⟩) outs.length cap) outs.length (i64s outs)) (hways : w.ownsRow B 87 3 wv ways.length (wayL ways)) (hfr : outs[fr]? = some o) (hl2 : ways.length ≤ 1000000000) (hB : B ≤ w.heap.size) :
    Calls Tryz.prog 33 #[.pointer (some ⟨b, 0, none⟩), .int .i64 (fr : Int), .int .i64 to, .int .i64 by_] w (LinkPost B b g cap wv yv st en pv kv outs ways fr to by_ o w) := by
  obtain ⟨i0, hi, hz0, hz1, hz2⟩ := info_parts Tryz.info87
  obtain ⟨c0, c1, _, _, _, _, _, _⟩ := hbox.cells
  have hblt : b < w.heap.size := (Array.getElem?_eq_some_iff.1 hbox).1
  have hfl := (List.getElem?_eq_some_iff.1 hfr).1
  have hfI : (fr : Int) < (outs.length : Int) := by omega
  have HBX := hide hbox
  have HOUT := hide hout
  have hco : w.cell? ⟨g, fr, none⟩ = some (.int .i64 o) := by
    have := hout.cellAt fr (by omega)
    rw [this]
    unfold i64s
    rw [List.getElem?_map, hfr]
    rfl
  have hgb : g ≠ b := fun e => own_not_box hout hbox (by decide) (by rw [e]; rfl)
  have hnb := own_not_box hways hbox (by decide)
  have hglt : g < w.heap.size := (hout.lt g rfl).2
  have hng : wv.ownBlock ≠ some g := by
    obtain ⟨cur, hc⟩ : ∃ cur, w.heap[g]? = some (.cells cur 3 (0, 0)) := by
      rcases hout.2 with ⟨e, _⟩ | ⟨g', cap', cur, e, _, hg, _⟩
      · cases e
      · cases e; exact ⟨cur, hg⟩
    exact own_not_box hways hc (by decide)
  have hf1 : w.frozen? ⟨b, 1, none⟩ = false := hbox.cells.2.2.2.2.2.2.2 1
  have HW : Hid (∀ (o : Obj), (w.alloc o).drew.ownsRow B 87 3 wv ways.length (wayL ways)) := fun o => hways.alloc o
  have HN : Hid (∀ (j : Nat) (u : Value), [Value.int .i64 to, .int .i64 by_, .int .i64 o][j]? = some u → ((w.alloc (.cells #[.int .i64 to, .int .i64 by_, .int .i64 o] 87)).drew).cell? ((⟨w.heap.size, 0, none⟩ : Addr).add j) = some u) := World.news_of_block (cs := #[.int .i64 to, .int .i64 by_, .int .i64 o]) (World.alloc_heap_new w _)
  have HFAR : Hid (∀ (ob : Obj) (w2 : World) (x j : Nat) (z : Value), x < w.heap.size → wv.ownBlock ≠ some x → (w.alloc ob).drew.grownBy w2 wv.ownBlock → w.cell? ⟨x, j, none⟩ = some z → w2.cell? ⟨x, j, none⟩ = some z ∧ w2.frozen? ⟨x, j, none⟩ = w.frozen? ⟨x, j, none⟩) := by
    intro ob w2 x j z hx hne hg hz
    have h1 : ((w.alloc ob).drew).cell? ⟨x, j, none⟩ = some z := ((Below.refl w.heap.size w).alloc (Nat.le_refl _) ob |>.cell (p := ⟨x, j, none⟩) hx).trans hz
    have h2 : ((w.alloc ob).drew).frozen? ⟨x, j, none⟩ = w.frozen? ⟨x, j, none⟩ := ((Below.refl w.heap.size w).alloc (Nat.le_refl _) ob |>.frozen (p := ⟨x, j, none⟩) hx)
    exact ⟨(hg.cell_far ⟨x, j, none⟩ (by show x < ((w.alloc ob)).heap.size; simp; omega) (fun e => hne e.symm)).trans h1, (hg.frozen_far ⟨x, j, none⟩ (by show x < ((w.alloc ob)).heap.size; simp; omega) (fun e => hne e.symm)).trans h2⟩
  clear hbox hout hways hfr
  go_enter Tryz.func33, Tryz.ntmps33
  go_wp2_with fail
  refine (fun (KEY : ∀ (g6 cap6 : Nat) (w6 : World), (w6.ownsRow B 87 3 (.slice (some ⟨g6, 0, none⟩) (ways.length + 1) cap6) (ways.length + 1) (wayL ways ++ [Value.int .i64 to, .int .i64 by_, .int .i64 o]) ∧ (w.alloc (.cells #[.int .i64 to, .int .i64 by_, .int .i64 o] 87)).drew.grownBy w6 wv.ownBlock) → (?G : Nat → Nat → World → Prop) g6 cap6 w6) => ?main) ?key
  case main =>
    go_region_law ((refine step_append_lies _ rfl (.tmp 12) (.tmp 23) 58 rfl B 87 i0 _ 3 24 Tryz.underlying58 hi hz0 hz1 hz2 rfl (by decide) wv ways.length (wayL ways) rfl (unhide HW _) ⟨w.heap.size, 0, none⟩ 1 1 [Value.int .i64 to, .int .i64 by_, .int .i64 o] rfl rfl (unhide HN) (by simp [Value.oneCell']) (by decide) (by unfold maxLen; omega) (by omega) (by show _ ≤ (w.alloc _).heap.size; simp; omega) (w.heap.size + 1) (by show (w.alloc _).heap.size = _; simp) ?_; intro g6 cap6 w6 hown6 hg6 hat6 hlt6; obtain ⟨e0, _⟩ := unhide HFAR _ _ _ _ _ hblt hnb hg6 c0; obtain ⟨e1, ef1⟩ := unhide HFAR _ _ _ _ _ hblt hnb hg6 c1; rw [hf1] at ef1; obtain ⟨e2, _⟩ := unhide HFAR _ _ _ _ _ hglt hng hg6 hco))
    all_goals exact KEY g6 cap6 w6 ⟨hown6, hg6⟩
  case key =>
    rintro g6 cap6 w6 ⟨hown6, hg6⟩
    have hal : Below w.heap.size w (w.alloc (.cells #[.int .i64 to, .int .i64 by_, .int .i64 o] 87)).drew := ((Below.refl _ _).alloc (Nat.le_refl _) _).drew
    have hbx6 : BBox w6 b (.slice (some ⟨g, 0, none⟩) outs.length cap) wv yv st en pv kv := (hg6.block b (Nat.lt_of_lt_of_le hblt hal.size) (fun e => hnb e.symm)).trans ((hal.block b hblt).trans HBX.out)
    have hout6 : w6.ownsRow B 3 1 (.slice (some ⟨g, 0, none⟩) outs.length cap) outs.length (i64s outs) := by
      refine ⟨HOUT.out.1, ?_⟩
      rcases HOUT.out.2 with ⟨e, _⟩ | ⟨g', cap', cur, e, hbb, hg, r⟩
      · cases e
      · cases e
        exact .inr ⟨g, cap, cur, rfl, hbb, (hg6.block g (Nat.lt_of_lt_of_le hglt hal.size) (fun e => hng e.symm)).trans ((hal.block g hglt).trans hg), r⟩
    have hs6 : w.heap.size ≤ w6.heap.size := Nat.le_trans hal.size hg6.size
    have h6b : b ≠ g6 := fun e => own_not_box hown6 hbx6 (by decide) (by rw [e]; rfl)
    have hbx7 := hbx6.set1 (.slice (some ⟨g6, 0, none⟩) (ways.length + 1) cap6)
    have hout7 := ownsRow_setCell_other hout6 (a := ⟨b, 1, none⟩) (own_not_box hout6 hbx6 (by decide)) (.slice (some ⟨g6, 0, none⟩) (ways.length + 1) cap6)
    have hown7 := ownsRow_setCell_other hown6 (a := ⟨b, 1, none⟩) (own_not_box hown6 hbx6 (by decide)) (.slice (some ⟨g6, 0, none⟩) (ways.length + 1) cap6)
    have hg67 := set_grown w6 b 1 (.slice (some ⟨g6, 0, none⟩) (ways.length + 1) cap6)
    obtain ⟨W7, hW7⟩ : ∃ W7, w6.setCell ⟨b, 1, none⟩ (.slice (some ⟨g6, 0, none⟩) (ways.length + 1) cap6) = W7 := ⟨_, rfl⟩
    rw [hW7] at hbx7 hout7 hown7 hg67 ⊢
    have G7 : Hid (Grow2 w W7 (some b) wv.ownBlock) := ⟨hg67.os.trans (hg6.os.trans hal.os), hg67.tape.trans (hg6.tape.trans hal.tape), hg67.output.trans (hg6.output.trans hal.output), Nat.le_trans hs6 hg67.size, fun k hk hp hq => (hg67.block k (Nat.lt_of_lt_of_le hk hs6) hp).trans ((hg6.block k (Nat.lt_of_lt_of_le hk hal.size) hq).trans (hal.block k hk))⟩
    obtain ⟨e0, e1, _, _, _, _, _, _⟩ := hbx7.cells
    have ec : W7.cell? ⟨g, fr, none⟩ = some (.int .i64 o) := by
      have h := hout7.cellAt fr (by omega)
      rw [h]
      have h2 := HOUT.out.cellAt fr (by omega)
      rw [hco] at h2
      exact h2.symm
    have efz : W7.frozen? ⟨g, fr, none⟩ = false := own_frozen hout7 fr
    have HBX7 := hide hbx7
    have HOUT7 := hide hout7
    have HOWN7 := hide hown7
    clear hbx6 hout6 hbx7 hout7 hown7 hg67 hown6 hg6 hW7 hal hs6 c0 c1 hco hf1 HW HN HFAR
    have hsub : ((ways.length + 1 : Nat) : Int) - 1 = (ways.length : Int) := by omega
    have HX : Hid (LinkPost B b g cap wv yv st en pv kv outs ways fr to by_ o w (.returned (.tuple #[])) (W7.setCell ⟨g, fr, none⟩ (.int .i64 (ways.length : Int)))) := by
      have hgs := set_grown W7 g fr (.int .i64 (ways.length : Int))
      have hg6g : g6 ≠ g := by
        intro e
        obtain ⟨cur, hc⟩ : ∃ cur, W7.heap[g]? = some (.cells cur 3 (0, 0)) := by
          rcases HOUT7.out.2 with ⟨e, _⟩ | ⟨g', cap', cur, e, _, hg, _⟩
          · cases e
          · cases e; exact ⟨cur, hg⟩
        exact own_not_box HOWN7.out hc (by decide) (by rw [e]; rfl)
      refine ⟨rfl, .slice (some ⟨g6, 0, none⟩) (ways.length + 1) cap6, ?_, ?_, ?_, ?_⟩
      · exact (hgs.block b (Array.getElem?_eq_some_iff.1 HBX7.out).1 (fun e => hgb (Option.some.inj e).symm)).trans HBX7.out
      · rw [← i64s_set]
        exact own_set98 HOUT7.out _
      · refine wayL_push ?_
        exact ownsRow_setCell_other HOWN7.out (a := ⟨g, fr, none⟩) (fun e => hg6g (Option.some.inj e)) _
      · have h7 := G7.out
        refine ⟨hgs.os.trans h7.os, hgs.tape.trans h7.tape, hgs.output.trans h7.output, Nat.le_trans h7.size hgs.size, fun k hk hne => ?_⟩
        simp only [List.mem_cons, not_or, List.not_mem_nil, not_false_eq_true, and_true] at hne
        exact (hgs.block k (Nat.lt_of_lt_of_le hk h7.size) hne.2.1).trans (h7.block k hk hne.1 hne.2.2)
    go_wp2
    go_region
    all_goals
      first | refine bodyPost_ret (results_none rfl _ _ _) rfl ?_ | refine bodyPost_end (results_none rfl _ _ _) rfl ?_
    all_goals
      obtain ⟨h1, wv', h2, h3, h4, h5⟩ := HX.out
      exact ⟨h1, wv', h2, h3, h4, ⟨h5.os, h5.tape, h5.output, h5.size, h5.block⟩⟩
end Go.Proofs.YtdlljlmgoiobpaaGreatDoor
/- The program's states: from: the ways out of a state, one by one. -/
namespace Go.Proofs.YtdlljlmgoiobpaaGreatDoor
open Go.RowKit Go.Shelf
attribute [local go_sem] Oper.semAt_some

/-- The ways that hang together from the i-th on. -/
inductive ChainIs (ways : List WayD) : Int → List WayD → Prop
  | done : ChainIs ways (-1) []
  | step (i : Nat) (x : WayD) (l : List WayD) (hx : ways[i]? = some x) (hlt : x.then_ < (i : Int)) (hlo : -1 ≤ x.then_) (h : ChainIs ways x.then_ l) : ChainIs ways (i : Int) (x :: l)
/-- What from reads. -/
structure FromAt (W : World) (Bs Bk b g cap : Nat) (wv : Value) (k : Nat) (outs : List Int) (ways : List WayD) : Prop where
  bs : W.cell? ⟨Bs, 0, none⟩ = some (.pointer (some ⟨b, 0, none⟩))
  bk : W.cell? ⟨Bk, 0, none⟩ = some (.int .i64 (k : Int))
  b0 : W.cell? ⟨b, 0, none⟩ = some (.slice (some ⟨g, 0, none⟩) outs.length cap)
  b1 : W.cell? ⟨b, 1, none⟩ = some wv
  out : ∀ (i : Nat) (o : Int), outs[i]? = some o → W.cell? ⟨g, i, none⟩ = some (.int .i64 o)
  way : ∀ (i : Nat) (x : WayD), ways[i]? = some x → ∃ gw cw, wv = .slice (some ⟨gw, 0, none⟩) ways.length cw ∧ W.cell? ⟨gw, i * 3, none⟩ = some (.int .i64 x.to) ∧ W.cell? ⟨gw, i * 3 + 1, none⟩ = some (.int .i64 x.by_) ∧ W.cell? ⟨gw, i * 3 + 2, none⟩ = some (.int .i64 x.then_)
theorem FromAt.drew {W : World} {Bs Bk b g cap : Nat} {wv : Value} {k : Nat} {outs : List Int} {ways : List WayD} (h : FromAt W Bs Bk b g cap wv k outs ways) : FromAt W.drew Bs Bk b g cap wv k outs ways := ⟨h.bs, h.bk, h.b0, h.b1, h.out, h.way⟩
/-- What its rounds read. -/
structure WayAt (W : World) (Bs b : Nat) (wv : Value) (ways : List WayD) : Prop where
  bs : W.cell? ⟨Bs, 0, none⟩ = some (.pointer (some ⟨b, 0, none⟩))
  b1 : W.cell? ⟨b, 1, none⟩ = some wv
  way : ∀ (i : Nat) (x : WayD), ways[i]? = some x → ∃ gw cw, wv = .slice (some ⟨gw, 0, none⟩) ways.length cw ∧ W.cell? ⟨gw, i * 3, none⟩ = some (.int .i64 x.to) ∧ W.cell? ⟨gw, i * 3 + 1, none⟩ = some (.int .i64 x.by_) ∧ W.cell? ⟨gw, i * 3 + 2, none⟩ = some (.int .i64 x.then_)
theorem FromAt.ways {W : World} {Bs Bk b g cap : Nat} {wv : Value} {k : Nat} {outs : List Int} {ways : List WayD} (h : FromAt W Bs Bk b g cap wv k outs ways) : WayAt W Bs b wv ways := ⟨h.bs, h.b1, h.way⟩
def encW (x : WayD) : Array Value := #[.agg #[.int .i64 x.to, .int .i64 x.by_, .int .i64 x.then_]]
set_option maxRecDepth 100000 in
set_option maxHeartbeats 2000000 in
theorem from1_in (F : Fence) (n : Nat) (h61 : F.fn 39) (hro : F.round = none) (hn : 1 ≤ n) (l Bs Bk b g cap : Nat) (wv : Value) (k : Nat) (outs : List Int) (ways chain : List WayD) (o : Int) (ho : outs[k]? = some o) (hch : ChainIs ways o chain) (V : WayD → Prop) (hV : ∀ x ∈ chain, V x)
    (Kp : World → World → Prop) (hKp : ∀ A B, Kp A B → WayAt A Bs b wv ways → WayAt B Bs b wv ways) (J Jx : List WayD → World → Prop)
    (hY : ∀ pre x W, J pre W → V x → pre.length < chain.length → YieldAt F (n - 1) Tryz.prog l (encW x) W fun e W' => (e = .returned (.bool true) ∧ J (pre ++ [x]) W' ∧ Kp W W') ∨ (e = .returned (.bool false) ∧ Jx (pre ++ [x]) W'))
    (hJd : ∀ s A, J s A → J s A.drew) (W : World) (hat : FromAt W Bs Bk b g cap wv k outs ways) (h0 : J [] W) :
    CallsIn F n Tryz.prog 39 #[.func (.yield l) #[] #[], .pointer (some ⟨Bs, 0, none⟩), .pointer (some ⟨Bk, 0, none⟩)] W fun e W' => (∃ v, e = .returned v) ∧ (J chain W' ∨ ∃ pre, pre <+: chain ∧ Jx pre W') := by
  have hkl := (List.getElem?_eq_some_iff.1 ho).1
  have hkI : (k : Int) < (outs.length : Int) := by omega
  have c1 := hat.bs
  have c2 := hat.bk
  have c3 := hat.b0
  have c4 := hat.out k o ho
  refine callsIn_of_wp Tryz.func39 rfl h61 ?_ hro
  simp only [Tryz.ntmps39, List.size_toArray, List.length_cons, List.length_nil, Nat.reduceAdd, Nat.reduceSub, Array.replicate_succ, Array.replicate_zero, List.push_toArray, List.append_toArray, List.nil_append, List.cons_append]
  gi_wp2
  refine (fun (KEY : (?G : Prop)) => ?main) ?key
  case main =>
    gi_region
    all_goals exact KEY
  case key =>
    have hat1 := hat.drew.ways
    have h01 := hJd _ _ h0
    clear c1 c2 c3 c4 hat h0
    obtain ⟨W1, hW1⟩ : ∃ W1, W.drew = W1 := ⟨_, rfl⟩
    rw [hW1] at hat1 h01 ⊢
    clear hW1
    gi_wp2
    gi_loopw [4] (fun iv wr => ∃ (pre rest : List WayD) (i : Int), chain = pre ++ rest ∧ iv = .int .i64 i ∧ ChainIs ways i rest ∧ J pre wr ∧ WayAt wr Bs b wv ways) (fun iv _ => (intOf iv + 1).toNat)
    case atStart => exact ⟨[], chain, o, rfl, rfl, hch, h01, hat1⟩
    case round =>
      obtain ⟨pre, rest, i, hpr, rfl, hci, hJs, hfa⟩ := hrel
      cases hci with
      | done =>
        have HX : Hid (J chain wr) := by
          unfold Hid
          rw [hpr, List.append_nil]
          exact hJs
        gi_wp2
        go_end0
        exact ⟨⟨_, rfl⟩, .inl HX.out⟩
      | step i x rest hx hlt hlo hrest =>
        have hxm : x ∈ chain := by rw [hpr]; simp
        obtain ⟨fn, tmps, assign, body, hy, hR⟩ := hY _ x wr hJs (hV x hxm) (by rw [hpr]; simp)
        have d1 := hfa.bs
        have d2 := hfa.b1
        obtain ⟨gw, cw, rfl, d3, d4, d5⟩ := hfa.way i x hx
        have hil := (List.getElem?_eq_some_iff.1 hx).1
        have hiI : (i : Int) < (ways.length : Int) := by omega
        have hin : ((i : Int) != -1) = true := by rw [bne_iff_ne]; omega
        have HFA := hide hfa
        dsimp only [encW] at hy
        have HXI := hide hx
        clear hfa hx
        gi_wp2
        refine hR.mono ?_
        rintro e W3 (⟨rfl, hJ3, hk3⟩ | ⟨rfl, hJx3⟩)
        · have hfa3 := hKp _ _ hk3 HFA.out
          have f1 := hfa3.bs
          have f2 := hfa3.b1
          obtain ⟨gw', cw', e, f3, f4, f5⟩ := hfa3.way i x HXI.out
          cases e
          have HFA3 := hide hfa3
          clear hfa3
          gi_wp2
          go_roundw
          case rel => exact ⟨pre ++ [x], rest, x.then_, by rw [hpr]; simp, rfl, hrest, hJ3, HFA3.out⟩
          case measure => simp [intOf]; omega
        · have hpx : pre ++ [x] <+: chain := by rw [hpr]; exact ⟨rest, by simp⟩
          gi_wp2
          refine bodyPost_ret (results_none rfl _ _ _) rfl ?_
          exact ⟨⟨_, rfl⟩, .inr ⟨_, hpx, hJx3⟩⟩
theorem lift_sub {V : WayD → Prop} : ∀ (l : List WayD), (∀ x ∈ l, V x) → ∃ ps : List { x : WayD // V x }, ps.map (·.1) = l := by
  intro l
  induction l with
  | nil => intro _; exact ⟨[], rfl⟩
  | cons x r ih =>
    intro h
    obtain ⟨ps, e⟩ := ih (fun y hy => h y (by simp [hy]))
    exact ⟨⟨x, h x (by simp)⟩ :: ps, by simp [e]⟩
/-- The iterator's contract. -/
theorem from_stops (F : Fence) (n : Nat) (h61 : F.fn 39) (hro : F.round = none) (hn : 1 ≤ n) (Bs Bk b g cap : Nat) (wv : Value) (k : Nat) (outs : List Int) (ways chain : List WayD) (o : Int) (ho : outs[k]? = some o) (hch : ChainIs ways o chain) (V : WayD → Prop) (hV : ∀ x ∈ chain, V x)
    (Kp : World → World → Prop) (hKp : ∀ A B, Kp A B → WayAt A Bs b wv ways → WayAt B Bs b wv ways) (w : World) (hat : ∀ W, Below w.heap.size w W → FromAt W Bs Bk b g cap wv k outs ways) :
    SeqStopsK F n Tryz.prog 39 #[.pointer (some ⟨Bs, 0, none⟩), .pointer (some ⟨Bk, 0, none⟩)] (fun (x : { x : WayD // V x }) => encW x.1) Kp (fun xs => xs.map (·.1) = chain) (fun pre => pre.map (·.1) <+: chain) chain.length w := by
  intro l J Jx W hW hJ hJx hY h0
  have hd : ∀ (A : World), A.grownBy A.drew none := fun A => ⟨rfl, rfl, rfl, Nat.le_refl _, fun _ _ _ => rfl⟩
  refine (from1_in F n h61 hro hn l Bs Bk b g cap wv k outs ways chain o ho hch V hV Kp hKp (fun pre W => ∃ ps : List { x : WayD // V x }, ps.map (·.1) = pre ∧ J ps W) (fun pre W => ∃ ps : List { x : WayD // V x }, ps.map (·.1) = pre ∧ Jx ps W) ?_ ?_ W (hat W hW) ⟨[], rfl, h0⟩).mono ?_
  · rintro pre x W1 ⟨ps, rfl, hj⟩ hx hlen
    obtain ⟨fn, tmps, assign, body, hy, hR⟩ := hY ps ⟨x, hx⟩ W1 hj (by simpa using hlen)
    refine ⟨fn, tmps, assign, body, hy, hR.mono ?_⟩
    rintro e W' (⟨rfl, h1, h2⟩ | ⟨rfl, h1⟩)
    · exact .inl ⟨rfl, ⟨ps ++ [⟨x, hx⟩], by simp, h1⟩, h2⟩
    · exact .inr ⟨rfl, ps ++ [⟨x, hx⟩], by simp, h1⟩
  · rintro s A ⟨ps, e, hj⟩
    exact ⟨ps, e, hJ ps A A.drew none hj (hd A) (fun r e => by cases e)⟩
  · rintro e W' ⟨hv, ⟨ps, e1, h1⟩ | ⟨pre, hp, ps, e1, h1⟩⟩
    · exact ⟨hv, .inl ⟨ps, e1, h1⟩⟩
    · exact ⟨hv, .inr ⟨ps, by show ps.map (·.1) <+: chain; rw [e1]; exact hp, h1⟩⟩
end Go.Proofs.YtdlljlmgoiobpaaGreatDoor
