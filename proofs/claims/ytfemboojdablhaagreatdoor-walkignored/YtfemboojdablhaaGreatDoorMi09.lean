/- Merged: AMatch, IgBase. -/
import Derived.Test.YtfemboojdablhaaGreatDoorMi08
import Derived.BigQuiet
import Derived.Deep.AppendLies
import Derived.Deep.LoopGhost
import Derived.Deep.QuietTactic
import Derived.Deep.RegionLaw
import Derived.Laws.AppendOwn
import Derived.Laws.Bits64b
import Derived.Laws.BitsLemmas
import Derived.Laws.OwnMore
import Derived.Lib.SliceRun
import Derived.Lib.TrailingZeros
import Derived.LoopIn
import Derived.LoopNIn
import Derived.Maps.AppendAt
import Derived.Maps.OwnOps
import Derived.Maps.OwnSet
import Derived.Maps.Views
import Derived.Outline
import Derived.OwnWalkIn
import Derived.ProofKit
import Derived.RangeFuncBox
import Derived.RangeFuncLeaves
import Derived.RangeFuncNested
import Derived.Shelf.Abstract
import Derived.Shelf.RegionOpen
import Derived.StringKeys
import Derived.TacticsInMore
import Derived.WalkKit
namespace Go.Proofs.YtfemboojdablhaaGreatDoor
open Go.RowKit Go.Maps
theorem Tryz.zero205 (w : World) : (zeroValue 205).run Tryz.prog w = .ok (.int .u64 0) w := by kernel_rfl
set_option maxRecDepth 100000 in
set_option maxHeartbeats 4000000 in
theorem match_any (op : Int) (tx : ByteArray) (v : Value) (ks : List ExprD) (s : ByteArray) (w : World) (hk : KidsAt w.heap.size w v ks) (htx : tx.size ≤ 1000000000) (hwt : wt (.mk op tx.data.toList ks) ≤ 10000000) (hs : s.size ≤ 1000000000) (hT : TabW w) (hpos : 11 < w.heap.size) :
    Calls Tryz.prog 189 #[.agg #[.int .i64 op, .string tx, v], .string s] w fun e w' => ∃ r, e = .returned (.bool r) ∧ (r = true ↔ InE (.mk op tx.data.toList ks) s.data.toList) ∧ Below w.heap.size w w' := by
  obtain ⟨va, vn, vc, rfl⟩ : ∃ a n c, v = .slice a n c := by
    rcases hk with ⟨e, _⟩ | ⟨gk, ck, e, _⟩ <;> exact ⟨_, _, _, e⟩
  have hal : Below w.heap.size w (w.alloc (.cells #[.int .i64 op, .string tx, .slice va vn vc] 163)) := (Below.refl _ _).alloc (Nat.le_refl _) _
  have hnew : (w.alloc (.cells #[.int .i64 op, .string tx, .slice va vn vc] 163)).heap[w.heap.size]? = some (.cells #[.int .i64 op, .string tx, .slice va vn vc] 163 (0, 0)) := World.alloc_heap_new w _
  have he : ExprAt (w.alloc (.cells #[.int .i64 op, .string tx, .slice va vn vc] 163)).heap.size (w.alloc (.cells #[.int .i64 op, .string tx, .slice va vn vc] 163)) w.heap.size 0 (.mk op tx.data.toList ks) := by
    have q0 : (w.alloc (.cells #[.int .i64 op, .string tx, .slice va vn vc] 163)).cell? ⟨w.heap.size, 0, none⟩ = some (.int .i64 op) := by rw [cell_of_row _ _ _ _ _ _ hnew]; rfl
    have q1 : (w.alloc (.cells #[.int .i64 op, .string tx, .slice va vn vc] 163)).cell? ⟨w.heap.size, 0 + 1, none⟩ = some (.string tx) := by rw [cell_of_row _ _ _ _ _ _ hnew]; rfl
    have q2 : (w.alloc (.cells #[.int .i64 op, .string tx, .slice va vn vc] 163)).cell? ⟨w.heap.size, 0 + 2, none⟩ = some (.slice va vn vc) := by rw [cell_of_row _ _ _ _ _ _ hnew]; rfl
    have hk2 := (hk.below hal).wide (show w.heap.size ≤ (w.alloc (.cells #[.int .i64 op, .string tx, .slice va vn vc] 163)).heap.size by simp)
    rcases hk2 with ⟨e, rfl⟩ | ⟨gk, ck, e, hck, hk3⟩
    · exact .nil _ _ _ _ (by simp) q0 q1 (q2.trans (congrArg some e)) htx
    · exact .row _ _ _ _ gk ck ks (by simp) q0 q1 (q2.trans (congrArg some e)) htx hck hk3
  have hbd := build_any w.heap.size 0 (.mk op tx.data.toList ks) _ he (by omega)
  go_enter Tryz.func189, Tryz.ntmps189
  go_wp2_with (go_at_call 164; refine hbd.mono ?_; rintro e w1 ⟨b, D, ov, wv, yv, pv, bm, ch, Gd, rfl, hst, hI, hopn, hb1⟩)
  have hw0 : Below w.heap.size w w1 := hal.trans (hb1.mono (by simp))
  have hsz : D.outs.length ≤ 100000000 := by
    have := hI.sN
    omega
  have h2 := hI.two
  have hA : AutoAt w1.heap.size w1 b D ch := by
    obtain ⟨g, cap, hg⟩ := hst.graph (by omega)
    obtain ⟨_, _, _, c3, c4, _⟩ := hst.box.cells
    exact ⟨⟨g, cap, wv, hg⟩, hst.bytes, c3, c4, hT.below hpos hw0, Nat.le_refl _, Nat.lt_of_lt_of_le hpos hw0.size, hg.bl⟩
  clear hst hb1 hal hnew he hbd hk
  have hAd : AutoAt w1.heap.size w1.drew b D ch := hA.below (Below.refl _ _).drew
  obtain ⟨g, cap, wv', hG⟩ := hA.gr
  have c0 := hG.b0
  have hop := opening_any w1.heap.size b D _ ch Gd w1.drew hAd hI hsz
  have HNS : Hid (∀ w2, Calls Tryz.prog 206 #[.int .i64 (D.outs.length : Int)] w2 fun e w' => ∃ v, e = .returned v ∧ SetRow w2.heap.size w' v (List.replicate (words D.outs.length) 0) ∧ Below w2.heap.size w2 w') := fun w2 => newSet_big D.outs.length w2 hsz
  have hblt : b < w1.heap.size := hA.bl
  refine (fun (KEY : ∀ (v1 v2 : Value) (ws1 : List Nat) (w2 w3 : World), (SetRow w1.heap.size w2 v1 ws1 ∧ ws1.length = words D.outs.length ∧ Leads Gd [] ws1 ∧ Below w1.heap.size w1 w2 ∧ SetRow w2.heap.size w3 v2 (List.replicate (words D.outs.length) 0) ∧ Below w2.heap.size w2 w3) → (?G : Value → Value → List Nat → World → World → Prop) v1 v2 ws1 w2 w3) => ?main) ?key
  case main =>
    go_region_with (first
      | (go_at_call 207; refine hop.mono ?_; rintro e w2 ⟨v1, ws1, rfl, hs1, hl1, hld, hb2⟩; have c02 : w2.cell? ⟨b, 0, none⟩ = some (.slice (some ⟨g, 0, none⟩) D.outs.length cap) := (hb2.cell (p := ⟨b, 0, none⟩) hblt).trans c0)
      | (go_at_call 206; refine ((unhide HNS) _).mono ?_; rintro e w3 ⟨v2, rfl, hs2, hb3⟩))
    all_goals exact KEY v1 v2 ws1 w2 w3 ⟨hs1, hl1, hld, ⟨hb2.os, hb2.tape, hb2.output, hb2.size, hb2.block⟩, hs2, hb3⟩
  case key =>
    rintro v1 v2 ws1 w2 w3 ⟨hs1, hl1, hld, hb2, hs2, hb3⟩
    have hwp := words_pos (show 0 < D.outs.length by omega)
    obtain ⟨g1, c1, hv1, hg1, hgl1⟩ := hs1.form (by omega)
    obtain ⟨g2, c2, hv2, hg2, hgl2⟩ := hs2.form (by rw [List.length_replicate]; omega)
    rw [hl1] at hv1
    rw [List.length_replicate] at hv2
    subst hv1
    subst hv2
    have hs13 : SetRow w1.heap.size w3 (.slice (some ⟨g1, 0, none⟩) (words D.outs.length) c1) ws1 := hs1.below hb3 (fun g' e => by have e' : g1 = g' := Option.some.inj e; omega)
    have hs23 : SetRow w1.heap.size w3 (.slice (some ⟨g2, 0, none⟩) (words D.outs.length) c2) (List.replicate (words D.outs.length) 0) := by
      refine ⟨⟨hs2.own.1, ?_⟩, hs2.lim⟩
      rcases hs2.own.2 with e | ⟨g', c', cur', e, hb', r⟩
      · exact .inl e
      · exact .inr ⟨g', c', cur', e, Nat.le_trans hb2.size hb', r⟩
    have hb13 : Below w1.heap.size w1 w3 := hb2.trans (hb3.mono hb2.size)
    have hg12 : g1 ≠ g2 := by omega
    have hwb : words D.outs.length ≤ 10000000 := by unfold words; omega
    obtain ⟨NW, hNW⟩ : ∃ NW, words D.outs.length = NW := ⟨_, rfl⟩
    have hwge := words_ge D.outs.length
    rw [hNW] at hs13 hs23 hl1 hwp hwb hwge ⊢
    clear hs1 hs2 hop HNS hAd hb2 hb3 hNW c0 hg2 hgl2 hg1 hgl1
    have hI1 : ∀ x, x < D.outs.length → ∀ d ∈ ch x, ∃ y : Nat, d.to = (y : Int) ∧ y < D.outs.length := fun x hx d hd => (hI.way x hx d hd).1
    have hI2 : ∀ x, x < D.outs.length → ∀ d ∈ ch x, d.by_ = -1 ∨ ∃ j : Nat, d.by_ = (j : Int) ∧ j < (D.K.map wordsOf).length := fun x hx d hd => by rw [List.length_map]; exact (hI.way x hx d hd).2
    go_wp2
    go_loopw [6, 7, 21] (fun n1 n2 iv wr => ∃ (i g1 c1 g2 c2 : Nat) (ws1 ws2 : List Nat), n1 = .slice (some ⟨g1, 0, none⟩) NW c1 ∧ n2 = .slice (some ⟨g2, 0, none⟩) NW c2 ∧ iv = .int .i64 (i : Int) ∧ i ≤ s.size ∧ g1 ≠ g2 ∧ SetRow w1.heap.size wr (.slice (some ⟨g1, 0, none⟩) NW c1) ws1 ∧ SetRow w1.heap.size wr (.slice (some ⟨g2, 0, none⟩) NW c2) ws2 ∧ ws1.length = NW ∧ ws2.length = NW ∧ Leads Gd (s.data.toList.take i) ws1 ∧ Below w1.heap.size w1 wr) (fun _ _ iv _ => s.size - (intOf iv).toNat)
    case atStart => exact ⟨0, g1, c1, g2, c2, ws1, _, rfl, rfl, rfl, Nat.zero_le _, hg12, hs13, hs23, hl1, by rw [List.length_replicate], hld, hb13⟩
    case round =>
      clear hs13 hs23 hld hb13 hg12 hl1
      obtain ⟨i, g1, c1, g2, c2, ws1, ws2, rfl, rfl, rfl, hi, hg12, hs1, hs2, hl1, hl2, hld, hb⟩ := hrel
      have hAr := hA.below hb
      by_cases hlt : i < s.size
      · have hiI : (i : Int) < (s.size : Int) := by omega
        have hg2B : w1.heap.size ≤ g2 := (own_cells hs2.own rfl).1
        have hcl : ∀ ty, (Builtin.clear_ #[246] ty #[.slice (some ⟨g2, 0, none⟩) NW c2]).run Tryz.prog wr = .ok (.tuple #[]) (wr.setCells g2 0 (List.replicate NW (.int .u64 0))) := fun ty => Lib.run_clear_slice wr 246 205 ty (.int .u64 0) Tryz.underlying246' Tryz.zero205 rfl rfl g2 0 NW c2 hwp (fun j hj => by rw [Nat.zero_add, hs2.cell (by omega)]; rfl) (fun j hj => by rw [Nat.zero_add]; exact own_frozen hs2.own j)
        obtain ⟨ws2', hz1, hz2, hz3, hz4⟩ := zero_cells NW 0 wr ws2 hs2
        have hs1' := hs1.far hz4 (fun e => hg12 (Option.some.inj e))
        have hbz : Below w1.heap.size wr (wr.setCells g2 0 (List.replicate NW (.int .u64 0))) := below_of_grown hz4 hb.size (fun r e => by cases e; exact hg2B)
        obtain ⟨wz, hwz⟩ : ∃ wz, wr.setCells g2 0 (List.replicate NW (.int .u64 0)) = wz := ⟨_, rfl⟩
        rw [hwz] at hz1 hz4 hs1' hbz hcl
        have hz0 : ∀ y, inS ws2' y = false := fun y => by
          unfold inS
          rw [hz3]
          by_cases hy : 0 ≤ y / 64 ∧ y / 64 < 0 + NW
          · rw [if_pos hy, Nat.zero_testBit]
          · rw [if_neg hy, List.getD_eq_getElem?_getD, List.getElem?_eq_none (by omega)]; simp
        have hAz := (hAr.below hbz).below (Below.refl _ wz).drew
        obtain ⟨gg, cc, wvv, hGz⟩ := hAz.gr
        have hstep := step_any w1.heap.size b gg cc s[i].toNat wvv (.slice (some ⟨g1, 0, none⟩) NW c1) (.slice (some ⟨g2, 0, none⟩) NW c2) D.outs D.ways (D.K.map wordsOf) ch ws1 ws2' wz.drew hGz hAz.by_ hAz.tab hAz.pos hAz.le hI.chain hI1 hI2 ⟨hs1'.own.kept (grown_drewN wz 1) (.inr (fun e => by cases e)), hs1'.lim⟩ ⟨hz1.own.kept (grown_drewN wz 1) (.inr (fun e => by cases e)), hz1.lim⟩ (fun e => hg12 (Option.some.inj e)) (by omega) (by omega) (by rw [hz2, hl2]; exact hwge) hsz (by omega) (fun x hx => by rw [hz0] at hx; cases hx) (fun k hk => gpath_lt hI ((hld k).1 hk) (by omega)) s[i].toNat_lt
        have HLD := hide hld
        have HIS := hide hI
        have HB := hide (hb.trans hbz)
        have HS1 := hide hs1'
        have HZ0 := hide hz0
        have HL : Hid (ws2'.length = NW) := hz2.trans hl2
        clear hAz hGz hAr hs1 hs2 hld hb hz1 hz2 hz3 hz4 hs1' hbz hz0 hI1 hI2 hA hG
        go_wp2_with (simp only [hcl])
        refine (fun (KEY : ∀ (ws3 : List Nat) (w4 : World), (SetRow w1.heap.size w4 (.slice (some ⟨g2, 0, none⟩) NW c2) ws3 ∧ Stp ch ws2' (fun z => ∃ k, inS ws1 k = true ∧ SWay ch (D.K.map wordsOf) s[i].toNat k z) ws3 ∧ wz.drew.grownBy w4 (some g2)) → (?G8 : List Nat → World → Prop) ws3 w4) => ?main8) ?key8
        case main8 =>
          go_region_with (go_at_call 210; refine hstep.mono ?_; rintro e w4 ⟨rfl, ws3, hs3, hst3, hg3⟩)
          all_goals exact KEY ws3 w4 ⟨hs3, hst3, hg3⟩
        case key8 =>
          rintro ws3 w4 ⟨hs3, hst3, hg3⟩
          go_wp2
          go_roundw
          case rel =>
            have e1 : s.data.toList.take (i + 1) = s.data.toList.take i ++ [s[i]] := by
              rw [List.take_add_one, List.getElem?_eq_getElem (by simpa using hlt)]
              rfl
            refine ⟨i + 1, g2, c2, g1, c1, ws3, ws1, rfl, rfl, by simp, by omega, hg12.symm, hs3, ?_, by rw [hst3.len]; exact HL.out, hl1, by rw [e1]; exact leads_step HIS.out HLD.out HZ0.out hst3, ?_⟩
            · exact SetRow.far (W := wz.drew) ⟨HS1.out.own.kept (grown_drewN wz 1) (.inr (fun e => by cases e)), HS1.out.lim⟩ hg3 (fun e => hg12 (Option.some.inj e))
            · exact HB.out.trans ((Below.refl _ wz).drew.trans (below_of_grown hg3 HB.out.size (fun r e => by cases e; exact hg2B)))
          case measure => simp [intOf]; omega
      · have hie : i = s.size := by omega
        subst hie
        have hiI : ¬ ((s.size : Int) < (s.size : Int)) := by omega
        have c4 := hAr.c4
        have hhas := has_any 1 wr hs1 (by rw [hl1]; omega) (by decide)
        go_wp2_with (go_at_call 211; refine hhas.mono ?_; rintro e w9 ⟨rfl, hw9⟩)
        clear hw9
        go_ret
        refine ⟨_, rfl, ?_, hw0.trans (hb.mono hw0.size)⟩
        have e1 : s.data.toList.take s.size = s.data.toList := List.take_of_length_le (by simp)
        rw [e1] at hld
        rw [hld 1, ← hI.path, hopn, List.map_nil, List.append_nil]
end Go.Proofs.YtfemboojdablhaaGreatDoor
namespace Go.Proofs.YtfemboojdablhaaGreatDoor
open Go.RowKit Go.Maps
def Box28 (W : World) (g : Nat) (op : Int) (s : ByteArray) (v : Value) : Prop := W.heap[g]? = some (.cells #[.int .i64 op, .string s, v] 163 (0, 0))
theorem below_alloc_block {B : Nat} {W W' : World} (hb : Below B W W') (hB : B ≤ W'.heap.size) (o : Obj) (a : Nat) (ha : a < B) : (W'.alloc o).heap[a]? = W.heap[a]? := by
  have h1 := hb.block a ha
  by_cases hl : a < W'.heap.size
  · rw [← h1]
    exact (((Below.refl W'.heap.size W').alloc (Nat.le_refl _) o).block a hl)
  · exact absurd (Nat.lt_of_lt_of_le ha hB) (by omega)
theorem own_lt {W : World} {B t sz n g : Nat} {v : Value} {xs : List Value} (h : W.ownsRow B t sz v n xs) (hg : v.ownBlock = some g) : g < W.heap.size := by
  obtain ⟨_, cur, hc⟩ := own_cells h hg
  exact (Array.getElem?_eq_some_iff.1 hc).1
theorem row_keep {W W' : World} {B t sz n : Nat} {v : Value} {xs : List Value} (h : W.ownsRow B t sz v n xs) (hk : ∀ (k : Nat) (c : Array Value), W.heap[k]? = some (.cells c t (0, 0)) → v.ownBlock = some k → W'.heap[k]? = some (.cells c t (0, 0))) : W'.ownsRow B t sz v n xs := by
  refine ⟨h.1, ?_⟩
  rcases h.2 with h2 | ⟨g, cap, cur, e, hbb, hg, r⟩
  · exact .inl h2
  · exact .inr ⟨g, cap, cur, e, hbb, hk g cur hg (by rw [e]; rfl), r⟩
theorem set_size (W : World) (p : Addr) (u : Value) : (W.setCell p u).heap.size = W.heap.size := by
  show (W.heap.modify _ _).size = _
  rw [Array.size_modify]
inductive ExprIn (S : Nat → Prop) (W : World) : Nat → Nat → ExprD → Prop
  | nil (g o : Nat) (op : Int) (st : ByteArray) (hg : S g) (h0 : W.cell? ⟨g, o, none⟩ = some (.int .i64 op)) (h1 : W.cell? ⟨g, o + 1, none⟩ = some (.string st)) (h2 : W.cell? ⟨g, o + 2, none⟩ = some (.slice none 0 0)) (hs : st.size ≤ 1000000000) : ExprIn S W g o (.mk op st.data.toList [])
  | row (g o : Nat) (op : Int) (st : ByteArray) (gk ck : Nat) (ks : List ExprD) (hg : S g) (h0 : W.cell? ⟨g, o, none⟩ = some (.int .i64 op)) (h1 : W.cell? ⟨g, o + 1, none⟩ = some (.string st)) (h2 : W.cell? ⟨g, o + 2, none⟩ = some (.slice (some ⟨gk, 0, none⟩) ks.length ck)) (hs : st.size ≤ 1000000000) (hc : ks.length ≤ ck)
      (hk : ∀ (i : Nat) (k : ExprD), ks[i]? = some k → ExprIn S W gk (i * 3) k) : ExprIn S W g o (.mk op st.data.toList ks)
theorem cell_same {W W' : World} {p : Addr} (h : W'.heap[p.block]? = W.heap[p.block]?) : W'.cell? p = W.cell? p := by
  unfold World.cell?
  rw [h]
theorem ExprIn.keep {S S' : Nat → Prop} {W W' : World} (hS : ∀ k, S k → S' k) (hb : ∀ k, S k → W'.heap[k]? = W.heap[k]?) {g o : Nat} {e : ExprD} (h : ExprIn S W g o e) : ExprIn S' W' g o e := by
  induction h with
  | nil g o op st hg h0 h1 h2 hs => exact .nil g o op st (hS g hg) ((cell_same (p := ⟨g, o, none⟩) (hb g hg)).trans h0) ((cell_same (p := ⟨g, o + 1, none⟩) (hb g hg)).trans h1) ((cell_same (p := ⟨g, o + 2, none⟩) (hb g hg)).trans h2) hs
  | row g o op st gk ck ks hg h0 h1 h2 hs hc _ ih => exact .row g o op st gk ck ks (hS g hg) ((cell_same (p := ⟨g, o, none⟩) (hb g hg)).trans h0) ((cell_same (p := ⟨g, o + 1, none⟩) (hb g hg)).trans h1) ((cell_same (p := ⟨g, o + 2, none⟩) (hb g hg)).trans h2) hs hc ih
def KidsIn (S : Nat → Prop) (W : World) (v : Value) (ks : List ExprD) : Prop := (v = .slice none 0 0 ∧ ks = []) ∨ ∃ gk ck, v = .slice (some ⟨gk, 0, none⟩) ks.length ck ∧ ks.length ≤ ck ∧ ∀ (i : Nat) (k : ExprD), ks[i]? = some k → ExprIn S W gk (i * 3) k
theorem KidsIn.keep {S S' : Nat → Prop} {W W' : World} (hS : ∀ k, S k → S' k) (hb : ∀ k, S k → W'.heap[k]? = W.heap[k]?) {v : Value} {ks : List ExprD} (h : KidsIn S W v ks) : KidsIn S' W' v ks := by
  rcases h with h | ⟨gk, ck, e, hc, hk⟩
  · exact .inl h
  · exact .inr ⟨gk, ck, e, hc, fun i k hi => (hk i k hi).keep hS hb⟩
def New (w w' : World) (k : Nat) : Prop := w.heap.size ≤ k ∧ k < w'.heap.size
theorem kin_shape {S : Nat → Prop} {W : World} {v : Value} {ks : List ExprD} (h : KidsIn S W v ks) : ∃ p c, v = .slice p ks.length c := by
  rcases h with ⟨e, e2⟩ | ⟨g, c, e, _⟩
  · subst e2; exact ⟨_, _, e⟩
  · exact ⟨_, _, e⟩
theorem zcells {W : World} {z : Nat} {x y u : Value} {t : TypeId} (h : W.heap[z]? = some (.cells #[x, y, u] t (0, 0))) : W.cell? ⟨z, 0, none⟩ = some x ∧ W.cell? ⟨z, 1, none⟩ = some y ∧ W.cell? ⟨z, 2, none⟩ = some u ∧ ∀ j, W.frozen? ⟨z, j, none⟩ = false := by
  simp [World.cell?, World.frozen?, h]
theorem set3 {W : World} {z : Nat} {x y u : Value} {t : TypeId} (h : W.heap[z]? = some (.cells #[x, y, u] t (0, 0))) (a b c : Value) : (((W.setCell ⟨z, 0, none⟩ a).setCell ⟨z, 1, none⟩ b).setCell ⟨z, 2, none⟩ c).heap[z]? = some (.cells #[a, b, c] t (0, 0)) ∧ ∀ k, k ≠ z → (((W.setCell ⟨z, 0, none⟩ a).setCell ⟨z, 1, none⟩ b).setCell ⟨z, 2, none⟩ c).heap[k]? = W.heap[k]? := by
  have st : ∀ (V : World) (cs : Array Value) (j : Nat) (v : Value), V.heap[z]? = some (.cells cs t (0, 0)) → (V.setCell ⟨z, j, none⟩ v).heap[z]? = some (.cells (cs.set! j v) t (0, 0)) := by
    intro V cs j v hV
    obtain ⟨hlt, hk⟩ := Array.getElem?_eq_some_iff.1 hV
    show (V.heap.modify z _)[z]? = _
    rw [Array.getElem?_eq_getElem (by rw [Array.size_modify]; exact hlt), Array.getElem_modify_self, hk]
    rfl
  have ot : ∀ (V : World) (j : Nat) (v : Value) (k : Nat), k ≠ z → (V.setCell ⟨z, j, none⟩ v).heap[k]? = V.heap[k]? := by
    intro V j v k hk
    show (V.heap.modify z _)[k]? = _
    rw [Array.getElem?_modify, if_neg (fun e => hk e.symm)]
  refine ⟨st _ _ 2 c (st _ _ 1 b (st _ _ 0 a h)), fun k hk => ?_⟩
  rw [ot _ _ _ k hk, ot _ _ _ k hk, ot _ _ _ k hk]
theorem Tryz.info163 : (Tryz.prog.info? 163).map (fun i => (i.zero, i.size, i.bytes)) = some (some (.agg #[.int .i64 0, .string ⟨#[]⟩, .slice none 0 0]), 3, 48) := by kernel_rfl
theorem Tryz.underlying161' : Tryz.prog.underlying 161 = some (.slice 163) := by kernel_rfl
def KRow (S : Nat → Prop) (W : World) (xs : List Value) (ks : List ExprD) : Prop := ∀ (j : Nat) (k : ExprD), ks[j]? = some k → ∃ (op : Int) (s : ByteArray) (v : Value) (q : List ExprD), k = .mk op s.data.toList q ∧ s.size ≤ 1000000000 ∧ xs[j * 3]? = some (.int .i64 op) ∧ xs[j * 3 + 1]? = some (.string s) ∧ xs[j * 3 + 2]? = some v ∧ KidsIn S W v q
theorem KRow.keep {S S' : Nat → Prop} {W W' : World} (hS : ∀ k, S k → S' k) (hb : ∀ k, S k → W'.heap[k]? = W.heap[k]?) {xs : List Value} {ks : List ExprD} (h : KRow S W xs ks) : KRow S' W' xs ks := fun j k hj => by
  obtain ⟨op, s, v, q, a, b, c, d, e, f⟩ := h j k hj
  exact ⟨op, s, v, q, a, b, c, d, e, f.keep hS hb⟩
theorem KRow.snoc {S : Nat → Prop} {W : World} {xs : List Value} {ks : List ExprD} (h : KRow S W xs ks) (hl : xs.length = ks.length * 3) {op : Int} {s : ByteArray} {v : Value} {q : List ExprD} (hs : s.size ≤ 1000000000) (hk : KidsIn S W v q) : KRow S W (xs ++ [.int .i64 op, .string s, v]) (ks ++ [.mk op s.data.toList q]) := fun j k hj => by
  have hjl := (List.getElem?_eq_some_iff.1 hj).1
  simp only [List.length_append, List.length_singleton] at hjl
  rcases Nat.lt_or_ge j ks.length with h1 | h1
  · rw [List.getElem?_append_left h1] at hj
    obtain ⟨op', s', v', q', a, b, c, d, e, f⟩ := h j k hj
    exact ⟨op', s', v', q', a, b, by rw [List.getElem?_append_left (by omega)]; exact c, by rw [List.getElem?_append_left (by omega)]; exact d, by rw [List.getElem?_append_left (by omega)]; exact e, f⟩
  · have hje : j = ks.length := by omega
    subst hje
    rw [List.getElem?_append_right (Nat.le_refl _), Nat.sub_self] at hj
    cases hj
    have e0 : ks.length * 3 - xs.length = 0 := by omega
    have e1 : ks.length * 3 + 1 - xs.length = 1 := by omega
    have e2 : ks.length * 3 + 2 - xs.length = 2 := by omega
    exact ⟨op, s, v, q, rfl, hs, by rw [List.getElem?_append_right (by omega), e0]; rfl, by rw [List.getElem?_append_right (by omega), e1]; rfl, by rw [List.getElem?_append_right (by omega), e2]; rfl, hk⟩
theorem own3_cell {B t n g c : Nat} {W : World} {xs : List Value} (h : W.ownsRow B t 3 (.slice (some ⟨g, 0, none⟩) n c) n xs) {i : Nat} {u : Value} (hu : xs[i]? = some u) : W.cell? ⟨g, i, none⟩ = some u := by
  rcases h.2 with ⟨e, _⟩ | ⟨g', c', cur, e, _, hg, _, _, _, hct⟩
  · cases e
  · cases e
    rw [cell_of_row _ _ _ _ _ _ hg]
    rw [← hct, List.getElem?_take] at hu
    split at hu
    · rw [Array.getElem?_toList] at hu
      exact hu
    · cases hu
theorem KRow.kids {S : Nat → Prop} {W : World} {B t n : Nat} {v : Value} {xs : List Value} {ks : List ExprD} (h : KRow S W xs ks) (ho : W.ownsRow B t 3 v n xs) (hn : n = ks.length) (hv : ∀ g, v.ownBlock = some g → S g) : KidsIn S W v ks := by
  subst hn
  rcases ho.2 with ⟨e, h0⟩ | ⟨g, c, cur, rfl, _, _, hc, _⟩
  · exact .inl ⟨e, List.eq_nil_of_length_eq_zero h0⟩
  · refine .inr ⟨g, c, rfl, hc, fun i k hi => ?_⟩
    obtain ⟨op, s, v, q, rfl, hs, c0, c1, c2, hk⟩ := h i k hi
    rcases hk with ⟨rfl, rfl⟩ | ⟨gk, ck, rfl, hck, hkk⟩
    · exact .nil g (i * 3) op s (hv g rfl) (own3_cell ho c0) (own3_cell ho c1) (own3_cell ho c2) hs
    · exact .row g (i * 3) op s gk ck q (hv g rfl) (own3_cell ho c0) (own3_cell ho c1) (own3_cell ho c2) hs hck hkk
theorem own3_shape {W : World} {B t n : Nat} {v : Value} {xs : List Value} (h : W.ownsRow B t 3 v n xs) : ∃ a c, v = .slice a n c := by
  rcases h.2 with ⟨e, h0⟩ | ⟨g, c, cur, e, _⟩
  · exact ⟨_, _, by rw [e, h0]⟩
  · exact ⟨_, _, e⟩
theorem news_at (W : World) (z : Nat) (hz : W.heap.size = z) (x y u : Value) (t : TypeId) : ∀ (j : Nat) (r : Value), [x, y, u][j]? = some r → (W.alloc (.cells #[x, y, u] t)).cell? ((⟨z, 0, none⟩ : Addr).add j) = some r := by
  subst hz
  exact World.news_of_block (cs := #[x, y, u]) (World.alloc_heap_new W _)
end Go.Proofs.YtfemboojdablhaaGreatDoor
