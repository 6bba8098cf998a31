/- The program's states: link. -/
import Derived.Test.YtjbdoeoimodhkaaGreatDoorAGrow
import Derived.Deep.RegionLaw
namespace Go.Proofs.YtjbdoeoimodhkaaGreatDoor
open Go.RowKit

theorem Tryz.info203 : (Tryz.prog.info? 203).map (fun i => (i.zero, i.size, i.bytes)) = some (some (.agg #[.int .i64 0, .int .i64 0, .int .i64 0]), 3, 24) := by kernel_rfl
structure WayD where
  to : Int
  by_ : Int
  then_ : Int
def way3 (x : WayD) : List Value := [.int .i64 x.to, .int .i64 x.by_, .int .i64 x.then_]
def wayL (l : List WayD) : List Value := l.flatMap way3
theorem BBox.set1 {W : World} {b : Nat} {ov wv yv : Value} {st en : Int} {pv kv : Value} (h : BBox W b ov wv yv st en pv kv) (u : Value) : BBox (W.setCell ⟨b, 1, none⟩ u) b ov u yv st en pv kv := by
  obtain ⟨hlt, hk⟩ := Array.getElem?_eq_some_iff.1 h
  show (W.heap.modify b _)[b]? = _
  rw [Array.getElem?_eq_getElem (by rw [Array.size_modify]; exact hlt), Array.getElem_modify_self, hk]
  rfl
/-- Some blocks may have been written, and new ones laid. -/
structure GrowN (w w' : World) (ex : List (Option Nat)) : Prop where
  os : w'.os = w.os
  tape : w'.tape = w.tape
  output : w'.output = w.output
  size : w.heap.size ≤ w'.heap.size
  block : ∀ k, k < w.heap.size → some k ∉ ex → w'.heap[k]? = w.heap[k]?
theorem wayL_push {B : Nat} {w1 : World} {v' : Value} {xs : List WayD} {x : WayD} (h : w1.ownsRow B 203 3 v' (xs.length + 1) (wayL xs ++ way3 x)) :
    w1.ownsRow B 203 3 v' (xs ++ [x]).length (wayL (xs ++ [x])) := by
  have e : wayL (xs ++ [x]) = wayL xs ++ way3 x := by simp [wayL]
  rw [List.length_append, e]; exact h
theorem i64s_set (xs : List Int) (i : Nat) (x : Int) : (i64s xs).set i (.int .i64 x) = i64s (xs.set i x) := by
  unfold i64s
  rw [List.map_set]
def LinkPost (B b g cap : Nat) (wv yv : Value) (st en : Int) (pv kv : Value) (outs : List Int) (ways : List WayD) (fr : Nat) (to by_ o : Int) (w : World) (e : Ending) (w' : World) : Prop :=
  e = .returned (.tuple #[]) ∧ ∃ wv', BBox w' b (.slice (some ⟨g, 0, none⟩) outs.length cap) wv' yv st en pv kv ∧ w'.ownsRow B 3 1 (.slice (some ⟨g, 0, none⟩) outs.length cap) outs.length (i64s (outs.set fr (ways.length : Int))) ∧ w'.ownsRow B 203 3 wv' (ways ++ [WayD.mk to by_ o]).length (wayL (ways ++ [WayD.mk to by_ o])) ∧ GrowN w w' [some b, some g, wv.ownBlock]
set_option maxRecDepth 100000 in
set_option maxHeartbeats 1000000 in
theorem link_any (B b g cap : Nat) (wv yv : Value) (st en : Int) (pv kv : Value) (outs : List Int) (ways : List WayD) (fr : Nat) (to by_ o : Int) (w : World) (hbox : BBox w b (.slice (some ⟨g, 0, none⟩) outs.length cap) wv yv st en pv kv) (hout : w.ownsRow B 3 1 (.slice (some ⟨g, 0, none⟩) outs.length cap) outs.length (i64s outs)) (hways : w.ownsRow B 203 3 wv ways.length (wayL ways)) (hfr : outs[fr]? = some o) (hl2 : ways.length ≤ 1000000000) (hB : B ≤ w.heap.size) :
    Calls Tryz.prog 125 #[.pointer (some ⟨b, 0, none⟩), .int .i64 (fr : Int), .int .i64 to, .int .i64 by_] w (LinkPost B b g cap wv yv st en pv kv outs ways fr to by_ o w) := by
  obtain ⟨i0, hi, hz0, hz1, hz2⟩ := info_parts Tryz.info203
  obtain ⟨c0, c1, _, _, _, _, _, _⟩ := hbox.cells
  have hblt : b < w.heap.size := (Array.getElem?_eq_some_iff.1 hbox).1
  have hfl := (List.getElem?_eq_some_iff.1 hfr).1
  have hfI : (fr : Int) < (outs.length : Int) := by omega
  have HBX := hide hbox
  have HOUT := hide hout
  have hco : w.cell? ⟨g, fr, none⟩ = some (.int .i64 o) := by
    have := hout.cellAt fr (by omega)
    rw [this]
    unfold i64s
    rw [List.getElem?_map, hfr]
    rfl
  have hgb : g ≠ b := fun e => own_not_box hout hbox (by decide) (by rw [e]; rfl)
  have hnb := own_not_box hways hbox (by decide)
  have hglt : g < w.heap.size := (hout.lt g rfl).2
  have hng : wv.ownBlock ≠ some g := by
    obtain ⟨cur, hc⟩ : ∃ cur, w.heap[g]? = some (.cells cur 3 (0, 0)) := by
      rcases hout.2 with ⟨e, _⟩ | ⟨g', cap', cur, e, _, hg, _⟩
      · cases e
      · cases e; exact ⟨cur, hg⟩
    exact own_not_box hways hc (by decide)
  have hf1 : w.frozen? ⟨b, 1, none⟩ = false := hbox.cells.2.2.2.2.2.2.2 1
  have HW : Hid (∀ (o : Obj), (w.alloc o).drew.ownsRow B 203 3 wv ways.length (wayL ways)) := fun o => hways.alloc o
  have HN : Hid (∀ (j : Nat) (u : Value), [Value.int .i64 to, .int .i64 by_, .int .i64 o][j]? = some u → ((w.alloc (.cells #[.int .i64 to, .int .i64 by_, .int .i64 o] 203)).drew).cell? ((⟨w.heap.size, 0, none⟩ : Addr).add j) = some u) := World.news_of_block (cs := #[.int .i64 to, .int .i64 by_, .int .i64 o]) (World.alloc_heap_new w _)
  have HFAR : Hid (∀ (ob : Obj) (w2 : World) (x j : Nat) (z : Value), x < w.heap.size → wv.ownBlock ≠ some x → (w.alloc ob).drew.grownBy w2 wv.ownBlock → w.cell? ⟨x, j, none⟩ = some z → w2.cell? ⟨x, j, none⟩ = some z ∧ w2.frozen? ⟨x, j, none⟩ = w.frozen? ⟨x, j, none⟩) := by
    intro ob w2 x j z hx hne hg hz
    have h1 : ((w.alloc ob).drew).cell? ⟨x, j, none⟩ = some z := ((Below.refl w.heap.size w).alloc (Nat.le_refl _) ob |>.cell (p := ⟨x, j, none⟩) hx).trans hz
    have h2 : ((w.alloc ob).drew).frozen? ⟨x, j, none⟩ = w.frozen? ⟨x, j, none⟩ := ((Below.refl w.heap.size w).alloc (Nat.le_refl _) ob |>.frozen (p := ⟨x, j, none⟩) hx)
    exact ⟨(hg.cell_far ⟨x, j, none⟩ (by show x < ((w.alloc ob)).heap.size; simp; omega) (fun e => hne e.symm)).trans h1, (hg.frozen_far ⟨x, j, none⟩ (by show x < ((w.alloc ob)).heap.size; simp; omega) (fun e => hne e.symm)).trans h2⟩
  clear hbox hout hways hfr
  go_enter Tryz.func125, Tryz.ntmps125
  go_wp2_with fail
  refine (fun (KEY : ∀ (g6 cap6 : Nat) (w6 : World), (w6.ownsRow B 203 3 (.slice (some ⟨g6, 0, none⟩) (ways.length + 1) cap6) (ways.length + 1) (wayL ways ++ [Value.int .i64 to, .int .i64 by_, .int .i64 o]) ∧ (w.alloc (.cells #[.int .i64 to, .int .i64 by_, .int .i64 o] 203)).drew.grownBy w6 wv.ownBlock) → (?G : Nat → Nat → World → Prop) g6 cap6 w6) => ?main) ?key
  case main =>
    go_region_law ((refine step_append_lies _ rfl (.tmp 12) (.tmp 23) 161 rfl B 203 i0 _ 3 24 Tryz.underlying161 hi hz0 hz1 hz2 rfl (by decide) wv ways.length (wayL ways) rfl (unhide HW _) ⟨w.heap.size, 0, none⟩ 1 1 [Value.int .i64 to, .int .i64 by_, .int .i64 o] rfl rfl (unhide HN) (by simp [Value.oneCell']) (by decide) (by unfold maxLen; omega) (by omega) (by show _ ≤ (w.alloc _).heap.size; simp; omega) (w.heap.size + 1) (by show (w.alloc _).heap.size = _; simp) ?_; intro g6 cap6 w6 hown6 hg6 hat6 hlt6; obtain ⟨e0, _⟩ := unhide HFAR _ _ _ _ _ hblt hnb hg6 c0; obtain ⟨e1, ef1⟩ := unhide HFAR _ _ _ _ _ hblt hnb hg6 c1; rw [hf1] at ef1; obtain ⟨e2, _⟩ := unhide HFAR _ _ _ _ _ hglt hng hg6 hco))
    all_goals exact KEY g6 cap6 w6 ⟨hown6, hg6⟩
  case key =>
    rintro g6 cap6 w6 ⟨hown6, hg6⟩
    have hal : Below w.heap.size w (w.alloc (.cells #[.int .i64 to, .int .i64 by_, .int .i64 o] 203)).drew := ((Below.refl _ _).alloc (Nat.le_refl _) _).drew
    have hbx6 : BBox w6 b (.slice (some ⟨g, 0, none⟩) outs.length cap) wv yv st en pv kv := (hg6.block b (Nat.lt_of_lt_of_le hblt hal.size) (fun e => hnb e.symm)).trans ((hal.block b hblt).trans HBX.out)
    have hout6 : w6.ownsRow B 3 1 (.slice (some ⟨g, 0, none⟩) outs.length cap) outs.length (i64s outs) := by
      refine ⟨HOUT.out.1, ?_⟩
      rcases HOUT.out.2 with ⟨e, _⟩ | ⟨g', cap', cur, e, hbb, hg, r⟩
      · cases e
      · cases e
        exact .inr ⟨g, cap, cur, rfl, hbb, (hg6.block g (Nat.lt_of_lt_of_le hglt hal.size) (fun e => hng e.symm)).trans ((hal.block g hglt).trans hg), r⟩
    have hs6 : w.heap.size ≤ w6.heap.size := Nat.le_trans hal.size hg6.size
    have h6b : b ≠ g6 := fun e => own_not_box hown6 hbx6 (by decide) (by rw [e]; rfl)
    have hbx7 := hbx6.set1 (.slice (some ⟨g6, 0, none⟩) (ways.length + 1) cap6)
    have hout7 := ownsRow_setCell_other hout6 (a := ⟨b, 1, none⟩) (own_not_box hout6 hbx6 (by decide)) (.slice (some ⟨g6, 0, none⟩) (ways.length + 1) cap6)
    have hown7 := ownsRow_setCell_other hown6 (a := ⟨b, 1, none⟩) (own_not_box hown6 hbx6 (by decide)) (.slice (some ⟨g6, 0, none⟩) (ways.length + 1) cap6)
    have hg67 := set_grown w6 b 1 (.slice (some ⟨g6, 0, none⟩) (ways.length + 1) cap6)
    obtain ⟨W7, hW7⟩ : ∃ W7, w6.setCell ⟨b, 1, none⟩ (.slice (some ⟨g6, 0, none⟩) (ways.length + 1) cap6) = W7 := ⟨_, rfl⟩
    rw [hW7] at hbx7 hout7 hown7 hg67 ⊢
    have G7 : Hid (Grow2 w W7 (some b) wv.ownBlock) := ⟨hg67.os.trans (hg6.os.trans hal.os), hg67.tape.trans (hg6.tape.trans hal.tape), hg67.output.trans (hg6.output.trans hal.output), Nat.le_trans hs6 hg67.size, fun k hk hp hq => (hg67.block k (Nat.lt_of_lt_of_le hk hs6) hp).trans ((hg6.block k (Nat.lt_of_lt_of_le hk hal.size) hq).trans (hal.block k hk))⟩
    obtain ⟨e0, e1, _, _, _, _, _, _⟩ := hbx7.cells
    have ec : W7.cell? ⟨g, fr, none⟩ = some (.int .i64 o) := by
      have h := hout7.cellAt fr (by omega)
      rw [h]
      have h2 := HOUT.out.cellAt fr (by omega)
      rw [hco] at h2
      exact h2.symm
    have efz : W7.frozen? ⟨g, fr, none⟩ = false := own_frozen hout7 fr
    have HBX7 := hide hbx7
    have HOUT7 := hide hout7
    have HOWN7 := hide hown7
    clear hbx6 hout6 hbx7 hout7 hown7 hg67 hown6 hg6 hW7 hal hs6 c0 c1 hco hf1 HW HN HFAR
    have hsub : ((ways.length + 1 : Nat) : Int) - 1 = (ways.length : Int) := by omega
    have HX : Hid (LinkPost B b g cap wv yv st en pv kv outs ways fr to by_ o w (.returned (.tuple #[])) (W7.setCell ⟨g, fr, none⟩ (.int .i64 (ways.length : Int)))) := by
      have hgs := set_grown W7 g fr (.int .i64 (ways.length : Int))
      have hg6g : g6 ≠ g := by
        intro e
        obtain ⟨cur, hc⟩ : ∃ cur, W7.heap[g]? = some (.cells cur 3 (0, 0)) := by
          rcases HOUT7.out.2 with ⟨e, _⟩ | ⟨g', cap', cur, e, _, hg, _⟩
          · cases e
          · cases e; exact ⟨cur, hg⟩
        exact own_not_box HOWN7.out hc (by decide) (by rw [e]; rfl)
      refine ⟨rfl, .slice (some ⟨g6, 0, none⟩) (ways.length + 1) cap6, ?_, ?_, ?_, ?_⟩
      · exact (hgs.block b (Array.getElem?_eq_some_iff.1 HBX7.out).1 (fun e => hgb (Option.some.inj e).symm)).trans HBX7.out
      · rw [← i64s_set]
        exact own_set98 HOUT7.out _
      · refine wayL_push ?_
        exact ownsRow_setCell_other HOWN7.out (a := ⟨g, fr, none⟩) (fun e => hg6g (Option.some.inj e)) _
      · have h7 := G7.out
        refine ⟨hgs.os.trans h7.os, hgs.tape.trans h7.tape, hgs.output.trans h7.output, Nat.le_trans h7.size hgs.size, fun k hk hne => ?_⟩
        simp only [List.mem_cons, not_or, List.not_mem_nil, not_false_eq_true, and_true] at hne
        exact (hgs.block k (Nat.lt_of_lt_of_le hk h7.size) hne.2.1).trans (h7.block k hk hne.1 hne.2.2)
    go_wp2
    go_region
    all_goals
      first | refine bodyPost_ret (results_none rfl _ _ _) rfl ?_ | refine bodyPost_end (results_none rfl _ _ _) rfl ?_
    all_goals
      obtain ⟨h1, wv', h2, h3, h4, h5⟩ := HX.out
      exact ⟨h1, wv', h2, h3, h4, ⟨h5.os, h5.tape, h5.output, h5.size, h5.block⟩⟩
end Go.Proofs.YtjbdoeoimodhkaaGreatDoor
