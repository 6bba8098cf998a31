/- Merged: ALink, AFrom, AReachP. -/
import Derived.Test.YtfemboojdablhaaGreatDoorMi00
import Derived.Deep.RegionLaw
import Derived.RangeFuncBox
import Derived.RangeFuncLeaves
import Derived.Shelf.Abstract
import Derived.OwnWalkIn
import Derived.TacticsInMore
import Derived.LoopNIn
import Derived.LoopIn
import Derived.Shelf.RegionOpen
import Derived.RangeFuncNested
namespace Go.Proofs.YtfemboojdablhaaGreatDoor
open Go.RowKit
theorem Tryz.info290 : (Tryz.prog.info? 290).map (fun i => (i.zero, i.size, i.bytes)) = some (some (.agg #[.int .i64 0, .int .i64 0, .int .i64 0]), 3, 24) := by kernel_rfl
structure WayD where
  to : Int
  by_ : Int
  then_ : Int
def way3 (x : WayD) : List Value := [.int .i64 x.to, .int .i64 x.by_, .int .i64 x.then_]
def wayL (l : List WayD) : List Value := l.flatMap way3
theorem BBox.set1 {W : World} {b : Nat} {ov wv yv : Value} {st en : Int} {pv kv : Value} (h : BBox W b ov wv yv st en pv kv) (u : Value) : BBox (W.setCell ⟨b, 1, none⟩ u) b ov u yv st en pv kv := by
  obtain ⟨hlt, hk⟩ := Array.getElem?_eq_some_iff.1 h
  show (W.heap.modify b _)[b]? = _
  rw [Array.getElem?_eq_getElem (by rw [Array.size_modify]; exact hlt), Array.getElem_modify_self, hk]
  rfl
structure GrowN (w w' : World) (ex : List (Option Nat)) : Prop where
  os : w'.os = w.os
  tape : w'.tape = w.tape
  output : w'.output = w.output
  size : w.heap.size ≤ w'.heap.size
  block : ∀ k, k < w.heap.size → some k ∉ ex → w'.heap[k]? = w.heap[k]?
theorem wayL_push {B : Nat} {w1 : World} {v' : Value} {xs : List WayD} {x : WayD} (h : w1.ownsRow B 290 3 v' (xs.length + 1) (wayL xs ++ way3 x)) :
    w1.ownsRow B 290 3 v' (xs ++ [x]).length (wayL (xs ++ [x])) := by
  have e : wayL (xs ++ [x]) = wayL xs ++ way3 x := by simp [wayL]
  rw [List.length_append, e]; exact h
theorem i64s_set (xs : List Int) (i : Nat) (x : Int) : (i64s xs).set i (.int .i64 x) = i64s (xs.set i x) := by
  unfold i64s
  rw [List.map_set]
def LinkPost (B b g cap : Nat) (wv yv : Value) (st en : Int) (pv kv : Value) (outs : List Int) (ways : List WayD) (fr : Nat) (to by_ o : Int) (w : World) (e : Ending) (w' : World) : Prop :=
  e = .returned (.tuple #[]) ∧ ∃ wv', BBox w' b (.slice (some ⟨g, 0, none⟩) outs.length cap) wv' yv st en pv kv ∧ w'.ownsRow B 3 1 (.slice (some ⟨g, 0, none⟩) outs.length cap) outs.length (i64s (outs.set fr (ways.length : Int))) ∧ w'.ownsRow B 290 3 wv' (ways ++ [WayD.mk to by_ o]).length (wayL (ways ++ [WayD.mk to by_ o])) ∧ GrowN w w' [some b, some g, wv.ownBlock]
set_option maxRecDepth 100000 in
set_option maxHeartbeats 1000000 in
theorem link_any (B b g cap : Nat) (wv yv : Value) (st en : Int) (pv kv : Value) (outs : List Int) (ways : List WayD) (fr : Nat) (to by_ o : Int) (w : World) (hbox : BBox w b (.slice (some ⟨g, 0, none⟩) outs.length cap) wv yv st en pv kv) (hout : w.ownsRow B 3 1 (.slice (some ⟨g, 0, none⟩) outs.length cap) outs.length (i64s outs)) (hways : w.ownsRow B 290 3 wv ways.length (wayL ways)) (hfr : outs[fr]? = some o) (hl2 : ways.length ≤ 1000000000) (hB : B ≤ w.heap.size) :
    Calls Tryz.prog 203 #[.pointer (some ⟨b, 0, none⟩), .int .i64 (fr : Int), .int .i64 to, .int .i64 by_] w (LinkPost B b g cap wv yv st en pv kv outs ways fr to by_ o w) := by
  obtain ⟨i0, hi, hz0, hz1, hz2⟩ := info_parts Tryz.info290
  obtain ⟨c0, c1, _, _, _, _, _, _⟩ := hbox.cells
  have hblt : b < w.heap.size := (Array.getElem?_eq_some_iff.1 hbox).1
  have hfl := (List.getElem?_eq_some_iff.1 hfr).1
  have hfI : (fr : Int) < (outs.length : Int) := by omega
  have HBX := hide hbox
  have HOUT := hide hout
  have hco : w.cell? ⟨g, fr, none⟩ = some (.int .i64 o) := by
    have := hout.cellAt fr (by omega)
    rw [this]
    unfold i64s
    rw [List.getElem?_map, hfr]
    rfl
  have hgb : g ≠ b := fun e => own_not_box hout hbox (by decide) (by rw [e]; rfl)
  have hnb := own_not_box hways hbox (by decide)
  have hglt : g < w.heap.size := (hout.lt g rfl).2
  have hng : wv.ownBlock ≠ some g := by
    obtain ⟨cur, hc⟩ : ∃ cur, w.heap[g]? = some (.cells cur 3 (0, 0)) := by
      rcases hout.2 with ⟨e, _⟩ | ⟨g', cap', cur, e, _, hg, _⟩
      · cases e
      · cases e; exact ⟨cur, hg⟩
    exact own_not_box hways hc (by decide)
  have hf1 : w.frozen? ⟨b, 1, none⟩ = false := hbox.cells.2.2.2.2.2.2.2 1
  have HW : Hid (∀ (o : Obj), (w.alloc o).drew.ownsRow B 290 3 wv ways.length (wayL ways)) := fun o => hways.alloc o
  have HN : Hid (∀ (j : Nat) (u : Value), [Value.int .i64 to, .int .i64 by_, .int .i64 o][j]? = some u → ((w.alloc (.cells #[.int .i64 to, .int .i64 by_, .int .i64 o] 290)).drew).cell? ((⟨w.heap.size, 0, none⟩ : Addr).add j) = some u) := World.news_of_block (cs := #[.int .i64 to, .int .i64 by_, .int .i64 o]) (World.alloc_heap_new w _)
  have HFAR : Hid (∀ (ob : Obj) (w2 : World) (x j : Nat) (z : Value), x < w.heap.size → wv.ownBlock ≠ some x → (w.alloc ob).drew.grownBy w2 wv.ownBlock → w.cell? ⟨x, j, none⟩ = some z → w2.cell? ⟨x, j, none⟩ = some z ∧ w2.frozen? ⟨x, j, none⟩ = w.frozen? ⟨x, j, none⟩) := by
    intro ob w2 x j z hx hne hg hz
    have h1 : ((w.alloc ob).drew).cell? ⟨x, j, none⟩ = some z := ((Below.refl w.heap.size w).alloc (Nat.le_refl _) ob |>.cell (p := ⟨x, j, none⟩) hx).trans hz
    have h2 : ((w.alloc ob).drew).frozen? ⟨x, j, none⟩ = w.frozen? ⟨x, j, none⟩ := ((Below.refl w.heap.size w).alloc (Nat.le_refl _) ob |>.frozen (p := ⟨x, j, none⟩) hx)
    exact ⟨(hg.cell_far ⟨x, j, none⟩ (by show x < ((w.alloc ob)).heap.size; simp; omega) (fun e => hne e.symm)).trans h1, (hg.frozen_far ⟨x, j, none⟩ (by show x < ((w.alloc ob)).heap.size; simp; omega) (fun e => hne e.symm)).trans h2⟩
  clear hbox hout hways hfr
  go_enter Tryz.func203, Tryz.ntmps203
  go_wp2_with fail
  refine (fun (KEY : ∀ (g6 cap6 : Nat) (w6 : World), (w6.ownsRow B 290 3 (.slice (some ⟨g6, 0, none⟩) (ways.length + 1) cap6) (ways.length + 1) (wayL ways ++ [Value.int .i64 to, .int .i64 by_, .int .i64 o]) ∧ (w.alloc (.cells #[.int .i64 to, .int .i64 by_, .int .i64 o] 290)).drew.grownBy w6 wv.ownBlock) → (?G : Nat → Nat → World → Prop) g6 cap6 w6) => ?main) ?key
  case main =>
    go_region_law ((refine step_append_lies _ rfl (.tmp 12) (.tmp 23) 233 rfl B 290 i0 _ 3 24 Tryz.underlying233 hi hz0 hz1 hz2 rfl (by decide) wv ways.length (wayL ways) rfl (unhide HW _) ⟨w.heap.size, 0, none⟩ 1 1 [Value.int .i64 to, .int .i64 by_, .int .i64 o] rfl rfl (unhide HN) (by simp [Value.oneCell']) (by decide) (by unfold maxLen; omega) (by omega) (by show _ ≤ (w.alloc _).heap.size; simp; omega) (w.heap.size + 1) (by show (w.alloc _).heap.size = _; simp) ?_; intro g6 cap6 w6 hown6 hg6 hat6 hlt6; obtain ⟨e0, _⟩ := unhide HFAR _ _ _ _ _ hblt hnb hg6 c0; obtain ⟨e1, ef1⟩ := unhide HFAR _ _ _ _ _ hblt hnb hg6 c1; rw [hf1] at ef1; obtain ⟨e2, _⟩ := unhide HFAR _ _ _ _ _ hglt hng hg6 hco))
    all_goals exact KEY g6 cap6 w6 ⟨hown6, hg6⟩
  case key =>
    rintro g6 cap6 w6 ⟨hown6, hg6⟩
    have hal : Below w.heap.size w (w.alloc (.cells #[.int .i64 to, .int .i64 by_, .int .i64 o] 290)).drew := ((Below.refl _ _).alloc (Nat.le_refl _) _).drew
    have hbx6 : BBox w6 b (.slice (some ⟨g, 0, none⟩) outs.length cap) wv yv st en pv kv := (hg6.block b (Nat.lt_of_lt_of_le hblt hal.size) (fun e => hnb e.symm)).trans ((hal.block b hblt).trans HBX.out)
    have hout6 : w6.ownsRow B 3 1 (.slice (some ⟨g, 0, none⟩) outs.length cap) outs.length (i64s outs) := by
      refine ⟨HOUT.out.1, ?_⟩
      rcases HOUT.out.2 with ⟨e, _⟩ | ⟨g', cap', cur, e, hbb, hg, r⟩
      · cases e
      · cases e
        exact .inr ⟨g, cap, cur, rfl, hbb, (hg6.block g (Nat.lt_of_lt_of_le hglt hal.size) (fun e => hng e.symm)).trans ((hal.block g hglt).trans hg), r⟩
    have hs6 : w.heap.size ≤ w6.heap.size := Nat.le_trans hal.size hg6.size
    have h6b : b ≠ g6 := fun e => own_not_box hown6 hbx6 (by decide) (by rw [e]; rfl)
    have hbx7 := hbx6.set1 (.slice (some ⟨g6, 0, none⟩) (ways.length + 1) cap6)
    have hout7 := ownsRow_setCell_other hout6 (a := ⟨b, 1, none⟩) (own_not_box hout6 hbx6 (by decide)) (.slice (some ⟨g6, 0, none⟩) (ways.length + 1) cap6)
    have hown7 := ownsRow_setCell_other hown6 (a := ⟨b, 1, none⟩) (own_not_box hown6 hbx6 (by decide)) (.slice (some ⟨g6, 0, none⟩) (ways.length + 1) cap6)
    have hg67 := set_grown w6 b 1 (.slice (some ⟨g6, 0, none⟩) (ways.length + 1) cap6)
    obtain ⟨W7, hW7⟩ : ∃ W7, w6.setCell ⟨b, 1, none⟩ (.slice (some ⟨g6, 0, none⟩) (ways.length + 1) cap6) = W7 := ⟨_, rfl⟩
    rw [hW7] at hbx7 hout7 hown7 hg67 ⊢
    have G7 : Hid (Grow2 w W7 (some b) wv.ownBlock) := ⟨hg67.os.trans (hg6.os.trans hal.os), hg67.tape.trans (hg6.tape.trans hal.tape), hg67.output.trans (hg6.output.trans hal.output), Nat.le_trans hs6 hg67.size, fun k hk hp hq => (hg67.block k (Nat.lt_of_lt_of_le hk hs6) hp).trans ((hg6.block k (Nat.lt_of_lt_of_le hk hal.size) hq).trans (hal.block k hk))⟩
    obtain ⟨e0, e1, _, _, _, _, _, _⟩ := hbx7.cells
    have ec : W7.cell? ⟨g, fr, none⟩ = some (.int .i64 o) := by
      have h := hout7.cellAt fr (by omega)
      rw [h]
      have h2 := HOUT.out.cellAt fr (by omega)
      rw [hco] at h2
      exact h2.symm
    have efz : W7.frozen? ⟨g, fr, none⟩ = false := own_frozen hout7 fr
    have HBX7 := hide hbx7
    have HOUT7 := hide hout7
    have HOWN7 := hide hown7
    clear hbx6 hout6 hbx7 hout7 hown7 hg67 hown6 hg6 hW7 hal hs6 c0 c1 hco hf1 HW HN HFAR
    have hsub : ((ways.length + 1 : Nat) : Int) - 1 = (ways.length : Int) := by omega
    have HX : Hid (LinkPost B b g cap wv yv st en pv kv outs ways fr to by_ o w (.returned (.tuple #[])) (W7.setCell ⟨g, fr, none⟩ (.int .i64 (ways.length : Int)))) := by
      have hgs := set_grown W7 g fr (.int .i64 (ways.length : Int))
      have hg6g : g6 ≠ g := by
        intro e
        obtain ⟨cur, hc⟩ : ∃ cur, W7.heap[g]? = some (.cells cur 3 (0, 0)) := by
          rcases HOUT7.out.2 with ⟨e, _⟩ | ⟨g', cap', cur, e, _, hg, _⟩
          · cases e
          · cases e; exact ⟨cur, hg⟩
        exact own_not_box HOWN7.out hc (by decide) (by rw [e]; rfl)
      refine ⟨rfl, .slice (some ⟨g6, 0, none⟩) (ways.length + 1) cap6, ?_, ?_, ?_, ?_⟩
      · exact (hgs.block b (Array.getElem?_eq_some_iff.1 HBX7.out).1 (fun e => hgb (Option.some.inj e).symm)).trans HBX7.out
      · rw [← i64s_set]
        exact own_set98 HOUT7.out _
      · refine wayL_push ?_
        exact ownsRow_setCell_other HOWN7.out (a := ⟨g, fr, none⟩) (fun e => hg6g (Option.some.inj e)) _
      · have h7 := G7.out
        refine ⟨hgs.os.trans h7.os, hgs.tape.trans h7.tape, hgs.output.trans h7.output, Nat.le_trans h7.size hgs.size, fun k hk hne => ?_⟩
        simp only [List.mem_cons, not_or, List.not_mem_nil, not_false_eq_true, and_true] at hne
        exact (hgs.block k (Nat.lt_of_lt_of_le hk h7.size) hne.2.1).trans (h7.block k hk hne.1 hne.2.2)
    go_wp2
    go_region
    all_goals
      first | refine bodyPost_ret (results_none rfl _ _ _) rfl ?_ | refine bodyPost_end (results_none rfl _ _ _) rfl ?_
    all_goals
      obtain ⟨h1, wv', h2, h3, h4, h5⟩ := HX.out
      exact ⟨h1, wv', h2, h3, h4, ⟨h5.os, h5.tape, h5.output, h5.size, h5.block⟩⟩
end Go.Proofs.YtfemboojdablhaaGreatDoor
namespace Go.Proofs.YtfemboojdablhaaGreatDoor
open Go.RowKit Go.Shelf
attribute [local go_sem] Oper.semAt_some
inductive ChainIs (ways : List WayD) : Int → List WayD → Prop
  | done : ChainIs ways (-1) []
  | step (i : Nat) (x : WayD) (l : List WayD) (hx : ways[i]? = some x) (hlt : x.then_ < (i : Int)) (hlo : -1 ≤ x.then_) (h : ChainIs ways x.then_ l) : ChainIs ways (i : Int) (x :: l)
structure FromAt (W : World) (Bs Bk b g cap : Nat) (wv : Value) (k : Nat) (outs : List Int) (ways : List WayD) : Prop where
  bs : W.cell? ⟨Bs, 0, none⟩ = some (.pointer (some ⟨b, 0, none⟩))
  bk : W.cell? ⟨Bk, 0, none⟩ = some (.int .i64 (k : Int))
  b0 : W.cell? ⟨b, 0, none⟩ = some (.slice (some ⟨g, 0, none⟩) outs.length cap)
  b1 : W.cell? ⟨b, 1, none⟩ = some wv
  out : ∀ (i : Nat) (o : Int), outs[i]? = some o → W.cell? ⟨g, i, none⟩ = some (.int .i64 o)
  way : ∀ (i : Nat) (x : WayD), ways[i]? = some x → ∃ gw cw, wv = .slice (some ⟨gw, 0, none⟩) ways.length cw ∧ W.cell? ⟨gw, i * 3, none⟩ = some (.int .i64 x.to) ∧ W.cell? ⟨gw, i * 3 + 1, none⟩ = some (.int .i64 x.by_) ∧ W.cell? ⟨gw, i * 3 + 2, none⟩ = some (.int .i64 x.then_)
theorem FromAt.drew {W : World} {Bs Bk b g cap : Nat} {wv : Value} {k : Nat} {outs : List Int} {ways : List WayD} (h : FromAt W Bs Bk b g cap wv k outs ways) : FromAt W.drew Bs Bk b g cap wv k outs ways := ⟨h.bs, h.bk, h.b0, h.b1, h.out, h.way⟩
structure WayAt (W : World) (Bs b : Nat) (wv : Value) (ways : List WayD) : Prop where
  bs : W.cell? ⟨Bs, 0, none⟩ = some (.pointer (some ⟨b, 0, none⟩))
  b1 : W.cell? ⟨b, 1, none⟩ = some wv
  way : ∀ (i : Nat) (x : WayD), ways[i]? = some x → ∃ gw cw, wv = .slice (some ⟨gw, 0, none⟩) ways.length cw ∧ W.cell? ⟨gw, i * 3, none⟩ = some (.int .i64 x.to) ∧ W.cell? ⟨gw, i * 3 + 1, none⟩ = some (.int .i64 x.by_) ∧ W.cell? ⟨gw, i * 3 + 2, none⟩ = some (.int .i64 x.then_)
theorem FromAt.ways {W : World} {Bs Bk b g cap : Nat} {wv : Value} {k : Nat} {outs : List Int} {ways : List WayD} (h : FromAt W Bs Bk b g cap wv k outs ways) : WayAt W Bs b wv ways := ⟨h.bs, h.b1, h.way⟩
def encW (x : WayD) : Array Value := #[.agg #[.int .i64 x.to, .int .i64 x.by_, .int .i64 x.then_]]
set_option maxRecDepth 100000 in
set_option maxHeartbeats 2000000 in
theorem from1_in (F : Fence) (n : Nat) (h61 : F.fn 235) (hro : F.round = none) (hn : 1 ≤ n) (l Bs Bk b g cap : Nat) (wv : Value) (k : Nat) (outs : List Int) (ways chain : List WayD) (o : Int) (ho : outs[k]? = some o) (hch : ChainIs ways o chain) (V : WayD → Prop) (hV : ∀ x ∈ chain, V x)
    (Kp : World → World → Prop) (hKp : ∀ A B, Kp A B → WayAt A Bs b wv ways → WayAt B Bs b wv ways) (J Jx : List WayD → World → Prop)
    (hY : ∀ pre x W, J pre W → V x → pre.length < chain.length → YieldAt F (n - 1) Tryz.prog l (encW x) W fun e W' => (e = .returned (.bool true) ∧ J (pre ++ [x]) W' ∧ Kp W W') ∨ (e = .returned (.bool false) ∧ Jx (pre ++ [x]) W'))
    (hJd : ∀ s A, J s A → J s A.drew) (W : World) (hat : FromAt W Bs Bk b g cap wv k outs ways) (h0 : J [] W) :
    CallsIn F n Tryz.prog 235 #[.func (.yield l) #[] #[], .pointer (some ⟨Bs, 0, none⟩), .pointer (some ⟨Bk, 0, none⟩)] W fun e W' => (∃ v, e = .returned v) ∧ (J chain W' ∨ ∃ pre, pre <+: chain ∧ Jx pre W') := by
  have hkl := (List.getElem?_eq_some_iff.1 ho).1
  have hkI : (k : Int) < (outs.length : Int) := by omega
  have c1 := hat.bs
  have c2 := hat.bk
  have c3 := hat.b0
  have c4 := hat.out k o ho
  refine callsIn_of_wp Tryz.func235 rfl h61 ?_ hro
  simp only [Tryz.ntmps235, List.size_toArray, List.length_cons, List.length_nil, Nat.reduceAdd, Nat.reduceSub, Array.replicate_succ, Array.replicate_zero, List.push_toArray, List.append_toArray, List.nil_append, List.cons_append]
  gi_wp2
  refine (fun (KEY : (?G : Prop)) => ?main) ?key
  case main =>
    gi_region
    all_goals exact KEY
  case key =>
    have hat1 := hat.drew.ways
    have h01 := hJd _ _ h0
    clear c1 c2 c3 c4 hat h0
    obtain ⟨W1, hW1⟩ : ∃ W1, W.drew = W1 := ⟨_, rfl⟩
    rw [hW1] at hat1 h01 ⊢
    clear hW1
    gi_wp2
    gi_loopw [4] (fun iv wr => ∃ (pre rest : List WayD) (i : Int), chain = pre ++ rest ∧ iv = .int .i64 i ∧ ChainIs ways i rest ∧ J pre wr ∧ WayAt wr Bs b wv ways) (fun iv _ => (intOf iv + 1).toNat)
    case atStart => exact ⟨[], chain, o, rfl, rfl, hch, h01, hat1⟩
    case round =>
      obtain ⟨pre, rest, i, hpr, rfl, hci, hJs, hfa⟩ := hrel
      cases hci with
      | done =>
        have HX : Hid (J chain wr) := by
          unfold Hid
          rw [hpr, List.append_nil]
          exact hJs
        gi_wp2
        go_end0
        exact ⟨⟨_, rfl⟩, .inl HX.out⟩
      | step i x rest hx hlt hlo hrest =>
        have hxm : x ∈ chain := by rw [hpr]; simp
        obtain ⟨fn, tmps, assign, body, hy, hR⟩ := hY _ x wr hJs (hV x hxm) (by rw [hpr]; simp)
        have d1 := hfa.bs
        have d2 := hfa.b1
        obtain ⟨gw, cw, rfl, d3, d4, d5⟩ := hfa.way i x hx
        have hil := (List.getElem?_eq_some_iff.1 hx).1
        have hiI : (i : Int) < (ways.length : Int) := by omega
        have hin : ((i : Int) != -1) = true := by rw [bne_iff_ne]; omega
        have HFA := hide hfa
        dsimp only [encW] at hy
        have HXI := hide hx
        clear hfa hx
        gi_wp2
        refine hR.mono ?_
        rintro e W3 (⟨rfl, hJ3, hk3⟩ | ⟨rfl, hJx3⟩)
        · have hfa3 := hKp _ _ hk3 HFA.out
          have f1 := hfa3.bs
          have f2 := hfa3.b1
          obtain ⟨gw', cw', e, f3, f4, f5⟩ := hfa3.way i x HXI.out
          cases e
          have HFA3 := hide hfa3
          clear hfa3
          gi_wp2
          go_roundw
          case rel => exact ⟨pre ++ [x], rest, x.then_, by rw [hpr]; simp, rfl, hrest, hJ3, HFA3.out⟩
          case measure => simp [intOf]; omega
        · have hpx : pre ++ [x] <+: chain := by rw [hpr]; exact ⟨rest, by simp⟩
          gi_wp2
          refine bodyPost_ret (results_none rfl _ _ _) rfl ?_
          exact ⟨⟨_, rfl⟩, .inr ⟨_, hpx, hJx3⟩⟩
theorem from_stops (F : Fence) (n : Nat) (h61 : F.fn 235) (hro : F.round = none) (hn : 1 ≤ n) (Bs Bk b g cap : Nat) (wv : Value) (k : Nat) (outs : List Int) (ways chain : List WayD) (o : Int) (ho : outs[k]? = some o) (hch : ChainIs ways o chain) (V : WayD → Prop) (hV : ∀ x ∈ chain, V x)
    (Kp : World → World → Prop) (hKp : ∀ A B, Kp A B → WayAt A Bs b wv ways → WayAt B Bs b wv ways) (w : World) (hat : ∀ W, Below w.heap.size w W → FromAt W Bs Bk b g cap wv k outs ways) :
    SeqStopsK F n Tryz.prog 235 #[.pointer (some ⟨Bs, 0, none⟩), .pointer (some ⟨Bk, 0, none⟩)] (fun (x : { x : WayD // V x }) => encW x.1) Kp (fun xs => xs.map (·.1) = chain) (fun pre => pre.map (·.1) <+: chain) chain.length w := by
  intro l J Jx W hW hJ hJx hY h0
  have hd : ∀ (A : World), A.grownBy A.drew none := fun A => ⟨rfl, rfl, rfl, Nat.le_refl _, fun _ _ _ => rfl⟩
  refine (from1_in F n h61 hro hn l Bs Bk b g cap wv k outs ways chain o ho hch V hV Kp hKp (fun pre W => ∃ ps : List { x : WayD // V x }, ps.map (·.1) = pre ∧ J ps W) (fun pre W => ∃ ps : List { x : WayD // V x }, ps.map (·.1) = pre ∧ Jx ps W) ?_ ?_ W (hat W hW) ⟨[], rfl, h0⟩).mono ?_
  · rintro pre x W1 ⟨ps, rfl, hj⟩ hx hlen
    obtain ⟨fn, tmps, assign, body, hy, hR⟩ := hY ps ⟨x, hx⟩ W1 hj (by simpa using hlen)
    refine ⟨fn, tmps, assign, body, hy, hR.mono ?_⟩
    rintro e W' (⟨rfl, h1, h2⟩ | ⟨rfl, h1⟩)
    · exact .inl ⟨rfl, ⟨ps ++ [⟨x, hx⟩], by simp, h1⟩, h2⟩
    · exact .inr ⟨rfl, ps ++ [⟨x, hx⟩], by simp, h1⟩
  · rintro s A ⟨ps, e, hj⟩
    exact ⟨ps, e, hJ ps A A.drew none hj (hd A) (fun r e => by cases e)⟩
  · rintro e W' ⟨hv, ⟨ps, e1, h1⟩ | ⟨pre, hp, ps, e1, h1⟩⟩
    · exact ⟨hv, .inl ⟨ps, e1, h1⟩⟩
    · exact ⟨hv, .inr ⟨ps, by show ps.map (·.1) <+: chain; rw [e1]; exact hp, h1⟩⟩
end Go.Proofs.YtfemboojdablhaaGreatDoor
namespace Go.Proofs.YtfemboojdablhaaGreatDoor
open Go.RowKit
def EWay (ch : Nat → List WayD) (x y : Nat) : Prop := ∃ d ∈ ch x, d.by_ = -1 ∧ d.to = (y : Int)
inductive ERch (ch : Nat → List WayD) (p : Nat) : Nat → Prop
  | nil : ERch ch p p
  | step (x y : Nat) (h : ERch ch p x) (hy : EWay ch x y) : ERch ch p y
def ClosedS (ch : Nat → List WayD) (ws : List Nat) : Prop := ∀ x, inS ws x = true → ∀ y, EWay ch x y → inS ws y = true
def miss : Nat → List Nat → Nat
  | 0, _ => 0
  | n + 1, ws => miss n ws + if inS ws n = true then 0 else 1
theorem miss_le (n : Nat) (ws : List Nat) : miss n ws ≤ n := by
  induction n with
  | zero => exact Nat.le_refl _
  | succ n ih => simp only [miss]; split <;> omega
theorem miss_past {k : Nat} {ws : List Nat} (hk : k / 64 < ws.length) : ∀ n, n ≤ k → miss n (addS ws k) = miss n ws := by
  intro n
  induction n with
  | zero => intro _; rfl
  | succ n ih =>
    intro h
    simp only [miss]
    rw [ih (by omega), inS_add hk, show decide (k = n) = false from decide_eq_false (by omega), Bool.or_false]
theorem miss_add {k : Nat} {ws : List Nat} (hk : k / 64 < ws.length) (hn : inS ws k = false) : ∀ n, k < n → miss n (addS ws k) + 1 = miss n ws := by
  intro n
  induction n with
  | zero => intro h; omega
  | succ n ih =>
    intro h
    simp only [miss]
    by_cases e : k = n
    · subst e
      rw [miss_past hk k (Nat.le_refl _), inS_add hk, hn]
      simp
    · have := ih (by omega)
      rw [inS_add hk, show decide (k = n) = false from decide_eq_false e, Bool.or_false]
      omega
structure RI (N : Nat) (ch : Nat → List WayD) (k : Nat) (ws0 : List Nat) (m : Nat) (hole : Nat → Prop) (ws1 opn : List Nat) : Prop where
  len : ws1.length = ws0.length
  sub : ∀ y, inS ws0 y = true → inS ws1 y = true
  at_ : inS ws1 k = true
  snd : ∀ y, inS ws1 y = true → inS ws0 y = true ∨ ERch ch k y
  ops : ∀ y ∈ opn, inS ws1 y = true ∧ y < N
  cl : ∀ x, inS ws1 x = true → hole x ∨ x ∈ opn ∨ ∀ y, EWay ch x y → inS ws1 y = true
  mu : miss N ws1 + opn.length ≤ m
theorem RI.start {N k : Nat} {ch : Nat → List WayD} {ws0 : List Nat} (hN : N ≤ ws0.length * 64) (hk : k < N) (hc : ClosedS ch ws0) (hn : inS ws0 k = false) : RI N ch k ws0 (N + 1) (fun _ => False) (addS ws0 k) [k] := by
  have hk' : k / 64 < ws0.length := by omega
  refine ⟨addS_length _ _, fun y hy => ?_, ?_, fun y hy => ?_, fun y hy => ?_, fun x hx => ?_, ?_⟩
  · rw [inS_add hk', hy]; rfl
  · rw [inS_add hk']; simp
  · rw [inS_add hk'] at hy
    simp at hy
    rcases hy with h | rfl
    · exact .inl h
    · exact .inr .nil
  · simp at hy
    subst hy
    rw [inS_add hk']; simp [hk]
  · rw [inS_add hk'] at hx
    simp at hx
    rcases hx with h | rfl
    · exact .inr (.inr fun y hy => by rw [inS_add hk', hc x h y hy]; rfl)
    · exact .inr (.inl (by simp))
  · have := miss_add hk' hn N hk
    have := miss_le N ws0
    simp only [List.length_cons, List.length_nil]
    omega
theorem RI.pop {N k m : Nat} {ch : Nat → List WayD} {ws0 ws1 opn : List Nat} {x : Nat} (h : RI N ch k ws0 m (fun _ => False) ws1 (opn ++ [x])) : RI N ch k ws0 (m - 1) (fun y => y = x) ws1 opn ∧ x < N ∧ inS ws1 x = true ∧ 1 ≤ m := by
  have hx := h.ops x (by simp)
  have hm := h.mu
  simp only [List.length_append, List.length_singleton] at hm
  refine ⟨⟨h.len, h.sub, h.at_, h.snd, fun y hy => h.ops y (by simp [hy]), fun y hy => ?_, by omega⟩, hx.2, hx.1, by omega⟩
  rcases h.cl y hy with h | h | h
  · exact h.elim
  · rcases List.mem_append.1 h with h | h
    · exact .inr (.inl h)
    · simp at h; exact .inl h
  · exact .inr (.inr h)
theorem RI.push {N k m : Nat} {ch : Nat → List WayD} {ws0 ws1 opn : List Nat} {x y : Nat} (hN : N ≤ ws0.length * 64) (hc : ClosedS ch ws0) (h : RI N ch k ws0 m (fun y => y = x) ws1 opn) (hx : inS ws1 x = true) (hy : EWay ch x y) (hyN : y < N) (hn : inS ws1 y = false) : RI N ch k ws0 m (fun y => y = x) (addS ws1 y) (opn ++ [y]) := by
  have hy' : y / 64 < ws1.length := by rw [h.len]; omega
  have hr : ERch ch k y := by
    rcases h.snd x hx with h0 | h0
    · have := h.sub y (hc x h0 y hy)
      rw [hn] at this; cases this
    · exact .step x y h0 hy
  refine ⟨by rw [addS_length, h.len], fun z hz => ?_, ?_, fun z hz => ?_, fun z hz => ?_, fun z hz => ?_, ?_⟩
  · rw [inS_add hy', h.sub z hz]; rfl
  · rw [inS_add hy', h.at_]; rfl
  · rw [inS_add hy'] at hz
    simp at hz
    rcases hz with h1 | rfl
    · exact h.snd z h1
    · exact .inr hr
  · rcases List.mem_append.1 hz with hz | hz
    · have := h.ops z hz
      rw [inS_add hy', this.1]; exact ⟨rfl, this.2⟩
    · simp at hz
      subst hz
      rw [inS_add hy']; simp [hyN]
  · rw [inS_add hy'] at hz
    simp at hz
    rcases hz with h1 | rfl
    · rcases h.cl z h1 with h2 | h2 | h2
      · exact .inl h2
      · exact .inr (.inl (by simp [h2]))
      · exact .inr (.inr fun u hu => by rw [inS_add hy', h2 u hu]; rfl)
    · exact .inr (.inl (by simp))
  · have := miss_add hy' hn N hyN
    have := h.mu
    simp only [List.length_append, List.length_singleton]
    omega
theorem RI.shut {N k m : Nat} {ch : Nat → List WayD} {ws0 ws1 opn : List Nat} {x : Nat} (h : RI N ch k ws0 m (fun y => y = x) ws1 opn) (hx : ∀ y, EWay ch x y → inS ws1 y = true) : RI N ch k ws0 m (fun _ => False) ws1 opn := by
  refine ⟨h.len, h.sub, h.at_, h.snd, h.ops, fun y hy => ?_, h.mu⟩
  rcases h.cl y hy with rfl | h | h
  · exact .inr (.inr hx)
  · exact .inr (.inl h)
  · exact .inr (.inr h)
structure Reached (ch : Nat → List WayD) (k : Nat) (ws ws' : List Nat) : Prop where
  len : ws'.length = ws.length
  all : ∀ y, inS ws' y = true ↔ inS ws y = true ∨ ERch ch k y
  cl : ClosedS ch ws'
theorem RI.done {N k m : Nat} {ch : Nat → List WayD} {ws0 ws1 : List Nat} (h : RI N ch k ws0 m (fun _ => False) ws1 []) : Reached ch k ws0 ws1 := by
  have hc : ClosedS ch ws1 := fun x hx y hy => by
    rcases h.cl x hx with h | h | h
    · exact h.elim
    · cases h
    · exact h y hy
  refine ⟨h.len, fun y => ⟨h.snd y, fun h0 => ?_⟩, hc⟩
  rcases h0 with h0 | h0
  · exact h.sub y h0
  · induction h0 with
    | nil => exact h.at_
    | step x y _ hy ih => exact hc x ih y hy
theorem Reached.there {ch : Nat → List WayD} {k : Nat} {ws : List Nat} (hc : ClosedS ch ws) (hk : inS ws k = true) : Reached ch k ws ws := by
  refine ⟨rfl, fun y => ⟨.inl, fun h => ?_⟩, hc⟩
  rcases h with h | h
  · exact h
  · induction h with
    | nil => exact hk
    | step x y _ hy ih => exact hc x ih y hy
end Go.Proofs.YtfemboojdablhaaGreatDoor
