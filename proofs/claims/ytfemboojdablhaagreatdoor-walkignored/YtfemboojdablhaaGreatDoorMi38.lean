/- Merged: WkE, WkF, WkG, WkH. -/
import Derived.Test.YtfemboojdablhaaGreatDoorMi37
import Derived.Maps.AppendAt
import Derived.Deep.RegionLaw
import Derived.Deep.RegionHeldLaw
import Derived.Deep.RegionHeld3
import Derived.Test.YtfemboojdablhaaGreatDoorMi34
namespace Go.Proofs.YtfemboojdablhaaGreatDoor.Tre
open Go.RowKit Go.Shelf
theorem Tryz.info5w : (Tryz.prog.info? 5).map (fun i => (i.zero, i.size, i.bytes)) = some (some (.int .u8 0), 1, 1) := by kernel_rfl
variable {L : List NodeD} {c : Cf} {gone nn : Nat} {out : List UInt8} {ab : List Bool} {pv bv tv : Value} {W W' : World}
theorem wcopy_any (w : World) (h : WSt L c gone out ab pv bv tv nn w) :
    Calls Tryz.prog 115 #[.pointer (some ⟨c.b, 11, none⟩)] w fun e w' => e = .returned (.tuple #[]) ∧ WSt L c gone out ab (.pointer (some ⟨c.b, 11, none⟩)) bv tv nn w' ∧ TurnC (DS c bv tv) (DS c bv tv) w w' := by
  rcases h.pvs with rfl | rfl
  · refine (wcopy_fresh c.b w (by rw [h.blk.cell]; rfl) h.blk.shape (h.blk.frozen 11)).mono ?_
    rintro e w' ⟨rfl, rfl⟩
    refine ⟨rfl, h.set (i := 11) ?_ (.inr rfl) rfl rfl, TurnC.setCell _ _ _ (.inl rfl)⟩
    exact wset_block h.blk
  · refine (wcopy_used c.b w (by rw [h.blk.cell]; rfl)).mono ?_
    rintro e w' ⟨rfl, rfl⟩
    exact ⟨rfl, h, TurnC.refl _ _⟩
theorem WSt.wrote (h : WSt L c gone out ab pv bv tv nn W) {bv' : Value} {new : List UInt8} (hg : W.grownBy W' bv.ownBlock) (hown : W'.ownsRow c.B 5 1 bv' (out ++ new).length (Lib.byteCells (out ++ new))) (hat : bv'.ownBlock = bv.ownBlock ∨ bv'.ownBlock = some W.heap.size) (hne : new ≠ []) :
    WSt L c gone (out ++ new) ab pv bv' tv nn (W'.setCell ⟨c.b, 12, none⟩ bv') ∧ TurnC (DS c bv tv) (DS c bv' tv) W (W'.setCell ⟨c.b, 12, none⟩ bv') := by
  obtain ⟨ts, ht⟩ := h.nts
  have hbb : bv.ownBlock ≠ some c.b := own_ne h.buf h.blk (by decide)
  have kb : W'.heap[c.b]? = W.heap[c.b]? := hg.block c.b h.blk.lt (fun e => hbb e.symm)
  have ka : W'.heap[c.ga]? = W.heap[c.ga]? := hg.block c.ga (Array.getElem?_eq_some_iff.1 h.abv).1 (fun e => own_ne h.buf h.abv (by decide) e.symm)
  have km : W'.heap[c.gm]? = W.heap[c.gm]? := hg.block c.gm (Array.getElem?_eq_some_iff.1 h.mea).1 (fun e => own_ne h.buf h.mea (by decide) e.symm)
  have kt : W'.ownsRow c.B 9 1 tv nn ts := wown_keep ht (fun k hk => hg.block k (ht.lt k hk).2 (fun e => own_two h.buf ht (by decide) e.symm hk))
  have hlow : Below c.B W W' := ⟨hg.os, hg.tape, hg.output, hg.size, fun k hk => hg.block k (by have := h.Bl; omega) (fun e => by have := (h.buf.lt k e.symm).1; omega)⟩
  have hblk : WkC W' c L.length gone pv bv tv := kb.trans h.blk
  have hba : c.ga ≠ c.b := fun e => ty_ne (e ▸ h.abv) h.blk (by decide)
  have hbm : c.gm ≠ c.b := fun e => h.ngm (.inl e)
  refine ⟨⟨wset_block hblk, h.pvs, wown_keep hown (fun k hk => wset_other (fun e => own_ne hown hblk (by decide) (e ▸ hk))), fun e => by simp [hne] at e, ⟨ts, wown_keep kt (fun k hk => wset_other (fun e => own_ne kt hblk (by decide) (e ▸ hk)))⟩, (wset_other hbm).trans (km.trans h.mea), (wset_other hba).trans (ka.trans h.abv), h.abl, (h.row.below hlow).below ((Below.refl c.B W').setCell (p := ⟨c.b, 12, none⟩) h.bB _), h.bB, h.gB⟩, ?_⟩
  refine ⟨hg.os, hg.tape, hg.output, by simp only [World.setCell, Array.size_modify]; exact hg.size, fun k hk hD => ?_, fun k hD => ?_⟩
  · rw [wset_other (fun e => hD (.inl e))]
    exact hg.block k hk (fun e => hD (.inr (.inr (.inl e.symm))))
  · rcases hD with e | e | e | e
    · exact .inl (.inl e)
    · exact .inl (.inr (.inl e))
    · rcases hat with q | q
      · exact .inl (.inr (.inr (.inl (q ▸ e))))
      · rw [q] at e; cases e; exact .inr (Nat.le_refl _)
    · exact .inl (.inr (.inr (.inr e)))
set_option maxRecDepth 100000 in
set_option maxHeartbeats 1000000 in
theorem wbyte_any (x : UInt8) (w : World) (h : WSt L c gone out ab pv bv tv nn w) (hlen : out.length + 1 ≤ 1000000000) :
    Calls Tryz.prog 72 #[.pointer (some ⟨c.b, 11, none⟩), .int .u8 (x.toNat : Int)] w fun e w' => e = .returned .nilIface ∧ ∃ pv' bv', WSt L c gone (out ++ [x]) ab pv' bv' tv nn w' ∧ TurnC (DS c bv tv) (DS c bv' tv) w w' := by
  obtain ⟨i0, hi, hz0, hz1, hz2⟩ := info_parts Tryz.info5w
  go_enter Tryz.func72, Tryz.ntmps72
  go_wp2_with fail
  refine (wcopy_any w h).mono ?_
  rintro e w1 ⟨rfl, h1, hT⟩
  have c0 : w1.cell? ⟨c.b, 11, none⟩ = some (.pointer (some ⟨c.b, 11, none⟩)) := by rw [h1.blk.cell]; rfl
  have c1 : w1.cell? ⟨c.b, 12, none⟩ = some bv := by rw [h1.blk.cell]; rfl
  have ha : WSt L c gone out ab (.pointer (some ⟨c.b, 11, none⟩)) bv tv nn (w1.alloc (.cells #[.int .u8 (x.toNat : Int)] 5)) := h1.below ((Below.refl _ _).alloc (Nat.le_refl _) _)
  have hBl := h1.Bl
  have hbuf := h1.buf
  have HH := hide h1
  go_wp2_with (at_builtin; refine wpList_append_own_at _ rfl _ _ 87 rfl c.B 5 i0 (.int .u8 0) 1 1 Tryz.underlying87 hi hz0 hz1 hz2 rfl (by decide) _ _ _ rfl (hbuf.alloc _) ⟨w1.heap.size, 0, none⟩ 1 1 [.int .u8 (x.toNat : Int)] rfl rfl (cell_one_new _ _ _) (by simp [Value.oneCell']) (by unfold maxLen; omega) (by omega) (by simp; omega) ?_)
  intro v' w2 hown' hgrow _ hat
  have hown2 : w2.ownsRow c.B 5 1 v' (out ++ [x]).length (Lib.byteCells (out ++ [x])) := by
    rw [List.length_append, show Lib.byteCells (out ++ [x]) = Lib.byteCells out ++ [.int .u8 (x.toNat : Int)] from by simp [Lib.byteCells]]
    exact hown'
  obtain ⟨hS, hT2⟩ := ha.wrote hgrow hown2 (by simpa using hat) (by simp)
  have hb2 : w2.heap[c.b]? = (w1.alloc (.cells #[.int .u8 (x.toNat : Int)] 5)).heap[c.b]? := hgrow.block c.b ha.blk.lt (fun e => own_ne ha.buf ha.blk (by decide) e.symm)
  have hblk2 : WkC w2 c L.length gone (.pointer (some ⟨c.b, 11, none⟩)) bv tv := hb2.trans ha.blk
  have d0 : w2.cell? ⟨c.b, 11, none⟩ = some (.pointer (some ⟨c.b, 11, none⟩)) := by rw [hblk2.cell]; rfl
  have d1 : w2.cell? ⟨c.b, 12, none⟩ = some bv := by rw [hblk2.cell]; rfl
  have f1 : w2.frozen? ⟨c.b, 12, none⟩ = false := hblk2.frozen 12
  have HS := hide (⟨hS, hT2, hT⟩ : _ ∧ _ ∧ _)
  obtain ⟨ao, n', cap', rfl⟩ : ∃ ao n' cap', v' = .slice ao n' cap' := by
    rcases hown'.2 with ⟨hv, _⟩ | ⟨g, cap', cur, hv, _⟩
    · exact ⟨_, _, _, hv⟩
    · exact ⟨_, _, _, hv⟩
  clear hS hT2 hT hown2 hown' hgrow ha hb2 hblk2 hat
  go_wp2
  go_ret
  obtain ⟨hS, hT2, hT⟩ := HS.out
  exact ⟨rfl, _, _, hS, hT.trans ((TurnC.of_below ((Below.refl _ _).alloc (Nat.le_refl _) _)).trans hT2)⟩
set_option maxRecDepth 100000 in
set_option maxHeartbeats 1000000 in
theorem wstr_any (s : ByteArray) (w : World) (h : WSt L c gone out ab pv bv tv nn w) (hlen : out.length + s.size ≤ 1000000000) (hs : 0 < s.size) :
    Calls Tryz.prog 71 #[.pointer (some ⟨c.b, 11, none⟩), .string s] w fun e w' => e = .returned (.tuple #[.int .i64 s.size, .nilIface]) ∧ ∃ pv' bv', WSt L c gone (out ++ s.data.toList) ab pv' bv' tv nn w' ∧ TurnC (DS c bv tv) (DS c bv' tv) w w' := by
  obtain ⟨i0, hi, hz0, hz1, hz2⟩ := info_parts Tryz.info5w
  go_enter Tryz.func71, Tryz.ntmps71
  go_wp2_with fail
  refine (wcopy_any w h).mono ?_
  rintro e w1 ⟨rfl, h1, hT⟩
  have c0 : w1.cell? ⟨c.b, 11, none⟩ = some (.pointer (some ⟨c.b, 11, none⟩)) := by rw [h1.blk.cell]; rfl
  have c1 : w1.cell? ⟨c.b, 12, none⟩ = some bv := by rw [h1.blk.cell]; rfl
  have hBl := h1.Bl
  have hbuf := h1.buf
  have HH := hide h1
  go_wp2_with (at_builtin; refine wpList_append_str_at rfl _ _ 87 9 rfl c.B 5 i0 Tryz.underlying87 Tryz.underlying9 hi hz0 hz1 hz2 _ _ _ rfl hbuf s rfl ?c3 ?c4 hBl ?_)
  case c3 => unfold maxLen; omega
  case c4 => omega
  intro v' w2 hown' hgrow hat
  have hown2 : w2.ownsRow c.B 5 1 v' (out ++ s.data.toList).length (Lib.byteCells (out ++ s.data.toList)) := by
    rw [List.length_append, show Lib.byteCells (out ++ s.data.toList) = Lib.byteCells out ++ Lib.strCells s from by rw [Lib.strCells_eq]; simp [Lib.byteCells], show s.data.toList.length = s.size from by simp]
    exact hown'
  obtain ⟨hS, hT2⟩ := HH.out.wrote hgrow hown2 hat (by intro e; rw [← len_data, e] at hs; simp at hs)
  have hb2 : w2.heap[c.b]? = w1.heap[c.b]? := hgrow.block c.b HH.out.blk.lt (fun e => own_ne HH.out.buf HH.out.blk (by decide) e.symm)
  have hblk2 : WkC w2 c L.length gone (.pointer (some ⟨c.b, 11, none⟩)) bv tv := hb2.trans HH.out.blk
  have d0 : w2.cell? ⟨c.b, 11, none⟩ = some (.pointer (some ⟨c.b, 11, none⟩)) := by rw [hblk2.cell]; rfl
  have d1 : w2.cell? ⟨c.b, 12, none⟩ = some bv := by rw [hblk2.cell]; rfl
  have f1 : w2.frozen? ⟨c.b, 12, none⟩ = false := hblk2.frozen 12
  have HS := hide (⟨hS, hT2, hT⟩ : _ ∧ _ ∧ _)
  obtain ⟨ao, n', cap', rfl⟩ : ∃ ao n' cap', v' = .slice ao n' cap' := by
    rcases hown'.2 with ⟨hv, _⟩ | ⟨g, cap', cur, hv, _⟩
    · exact ⟨_, _, _, hv⟩
    · exact ⟨_, _, _, hv⟩
  clear hS hT2 hT hown2 hown' hgrow hb2 hblk2 hat
  go_wp2
  go_ret2
  obtain ⟨hS, hT2, hT⟩ := HS.out
  exact ⟨rfl, _, _, hS, hT.trans hT2⟩
def VisB (W : World) (vb : Nat) (p : ByteArray) (d : Int) (k : Nat) (n : NodeD) (kv : Value) : Prop :=
  W.heap[vb]? = some (.cells #[.string p, .int .i64 d, .int .i64 (k : Int), .int .u8 n.kind, .string n.name, .int .i64 n.up, .int .i64 n.size, .int .i64 n.time, .string n.text, kv, .bool false] 122 (0, 0))
theorem VisB.cell {vb k : Nat} {p : ByteArray} {d : Int} {n : NodeD} {kv : Value} (h : VisB W vb p d k n kv) (i : Nat) : W.cell? ⟨vb, i, none⟩ = #[.string p, .int .i64 d, .int .i64 (k : Int), .int .u8 n.kind, .string n.name, .int .i64 n.up, .int .i64 n.size, .int .i64 n.time, .string n.text, kv, .bool false][i]? := Lib.cell_of_heap h i
theorem VisB.lt {vb k : Nat} {p : ByteArray} {d : Int} {n : NodeD} {kv : Value} (h : VisB W vb p d k n kv) : vb < W.heap.size := (Array.getElem?_eq_some_iff.1 h).1
theorem VisB.nD {vb k : Nat} {p : ByteArray} {d : Int} {n : NodeD} {kv : Value} (h : VisB W vb p d k n kv) (hw : WSt L c gone out ab pv bv tv nn W) : ¬ DS c bv tv vb := by
  rintro (e | e | hk | hk)
  · subst e; exact ty_ne h hw.blk (by decide)
  · subst e; exact ty_ne h hw.abv (by decide)
  · exact own_ne hw.buf h (by decide) hk
  · obtain ⟨ts, ht⟩ := hw.nts
    exact own_ne ht h (by decide) hk
theorem VisB.turn {vb k : Nat} {p : ByteArray} {d : Int} {n : NodeD} {kv : Value} {D D' : Nat → Prop} (h : VisB W vb p d k n kv) (ht : TurnC D D' W W') (hn : ¬ D vb) : VisB W' vb p d k n kv := (ht.block vb h.lt hn).trans h
structure PrB (W : World) (b wb eb : Nat) : Prop where
  w : W.heap[wb]? = some (.cells #[.pointer (some ⟨b, 0, none⟩)] 63 (0, 0))
  e : W.heap[eb]? = some (.cells #[.int .u8 10] 5 (0, 0))
theorem one_cell {a : Nat} {v : Value} {t : TypeId} (h : W.heap[a]? = some (.cells #[v] t (0, 0))) : W.cell? ⟨a, 0, none⟩ = some v := by rw [Lib.cell_of_heap h]; rfl
set_option maxRecDepth 100000 in
set_option maxHeartbeats 4000000 in
theorem print1_any (wb eb vb k : Nat) (p : ByteArray) (d : Int) (n : NodeD) (kv : Value) (w : World) (h : WSt L c gone out ab pv bv tv nn w) (hp : PrB w c.b wb eb) (hv : VisB w vb p d k n kv) (hnw : ¬ DS c bv tv wb) (hne : ¬ DS c bv tv eb) (hlen : out.length + p.size + 1 ≤ 1000000000) (h0 : 0 < p.size) :
    Calls Tryz.prog 70 #[.pointer (some ⟨vb, 0, none⟩), .pointer (some ⟨wb, 0, none⟩), .pointer (some ⟨eb, 0, none⟩)] w fun e w' => e = .returned (.bool true) ∧ ∃ pv' bv', WSt L c gone (out ++ (p.data.toList ++ [10])) ab pv' bv' tv nn w' ∧ TurnC (DS c bv tv) (DS c bv' tv) w w' := by
  have c0 : w.cell? ⟨wb, 0, none⟩ = some (.pointer (some ⟨c.b, 0, none⟩)) := one_cell hp.w
  have c1 : w.cell? ⟨vb, 0, none⟩ = some (.string p) := by rw [hv.cell]; rfl
  have hb0 : Below w.heap.size w w.drew := (Below.refl _ _).drew
  have HST : Hid (Calls Tryz.prog 71 #[.pointer (some ⟨c.b, 11, none⟩), .string p] w.drew fun e w' => e = .returned (.tuple #[.int .i64 p.size, .nilIface]) ∧ ∃ pv' bv', WSt L c gone (out ++ p.data.toList) ab pv' bv' tv nn w' ∧ TurnC (DS c bv tv) (DS c bv' tv) w.drew w') := wstr_any p w.drew (h.below hb0) (by omega) h0
  have HP := hide (⟨h, hp, hnw, hne⟩ : _ ∧ _ ∧ _ ∧ _)
  have hwl : wb < w.heap.size := (Array.getElem?_eq_some_iff.1 hp.w).1
  have hel : eb < w.heap.size := (Array.getElem?_eq_some_iff.1 hp.e).1
  clear h hp hnw hne hv hb0
  go_enter Tryz.func70, Tryz.ntmps70
  go_wp2
  refine (fun (KEY : ∀ w', (∃ pv' bv', WSt L c gone (out ++ p.data.toList) ab pv' bv' tv nn w' ∧ TurnC (DS c bv tv) (DS c bv' tv) w.drew w') → (?G : World → Prop) w') => ?main) ?key
  case main =>
    go_region_with (go_at_call 71; refine HST.out.mono ?_; rintro e w6 ⟨rfl, hw6⟩)
    all_goals exact KEY _ hw6
  case key =>
    rintro w6 ⟨pv6, bv6, h6, hT6⟩
    obtain ⟨h, hp, hnw, hne⟩ := HP.out
    have k6 : ∀ k, k < w.heap.size → ¬ DS c bv tv k → w6.heap[k]? = w.heap[k]? := fun k hk hd => hT6.block k hk hd
    have c0 : w6.cell? ⟨wb, 0, none⟩ = some (.pointer (some ⟨c.b, 0, none⟩)) := one_cell ((k6 wb hwl hnw).trans hp.w)
    have c1 : w6.cell? ⟨eb, 0, none⟩ = some (.int .u8 10) := one_cell ((k6 eb hel hne).trans hp.e)
    have hb6 : Below w6.heap.size w6 w6.drew := (Below.refl _ _).drew
    have HBY : Hid (Calls Tryz.prog 72 #[.pointer (some ⟨c.b, 11, none⟩), .int .u8 10] w6.drew fun e w' => e = .returned .nilIface ∧ ∃ pv' bv', WSt L c gone (out ++ p.data.toList ++ [10]) ab pv' bv' tv nn w' ∧ TurnC (DS c bv6 tv) (DS c bv' tv) w6.drew w') := wbyte_any 10 w6.drew (h6.below hb6) (by rw [List.length_append]; have := len_data p; omega)
    have HT6 : Hid (TurnC (DS c bv tv) (DS c bv6 tv) w w6) := (TurnC.of_below ((Below.refl _ w).drew)).trans hT6
    clear h6 hT6 h hp hnw hne k6 hb6
    go_wp2
    refine (fun (KEY : ∀ w', (∃ pv' bv', WSt L c gone (out ++ p.data.toList ++ [10]) ab pv' bv' tv nn w' ∧ TurnC (DS c bv6 tv) (DS c bv' tv) w6.drew w') → (?G2 : World → Prop) w') => ?main2) ?key2
    case main2 =>
      go_region_with (go_at_call 72; refine HBY.out.mono ?_; rintro e w7 ⟨rfl, hw7⟩)
      all_goals exact KEY _ hw7
    case key2 =>
      rintro w7 ⟨pv7, bv7, h7, hT7⟩
      have HX := hide (⟨h7, hT7⟩ : _ ∧ _)
      clear h7 hT7
      go_wp2
      go_ret
      obtain ⟨h7, hT7⟩ := HX.out
      exact ⟨rfl, pv7, bv7, by rw [← List.append_assoc]; exact h7, HT6.out.trans ((TurnC.of_below ((Below.refl _ w6).drew)).trans hT7)⟩
end Go.Proofs.YtfemboojdablhaaGreatDoor.Tre
namespace Go.Proofs.YtfemboojdablhaaGreatDoor.Tre
open Go.RowKit Go.Shelf
variable {L : List NodeD} {c : Cf} {gone nn : Nat} {out : List UInt8} {ab : List Bool} {pv bv tv : Value} {W W' : World}
theorem WSt.noted (h : WSt L c gone out ab pv bv tv nn W) {tv' : Value} {nn' : Nat} {ts' : List Value} (hg : W.grownBy W' tv.ownBlock) (hown : W'.ownsRow c.B 9 1 tv' nn' ts') (hat : tv'.ownBlock = tv.ownBlock ∨ tv'.ownBlock = some W.heap.size) :
    WSt L c gone out ab pv bv tv' nn' (W'.setCell ⟨c.b, 13, none⟩ tv') ∧ TurnC (DS c bv tv) (DS c bv tv') W (W'.setCell ⟨c.b, 13, none⟩ tv') := by
  obtain ⟨ts, ht⟩ := h.nts
  have hbb : tv.ownBlock ≠ some c.b := own_ne ht h.blk (by decide)
  have kb : W'.heap[c.b]? = W.heap[c.b]? := hg.block c.b h.blk.lt (fun e => hbb e.symm)
  have ka : W'.heap[c.ga]? = W.heap[c.ga]? := hg.block c.ga (Array.getElem?_eq_some_iff.1 h.abv).1 (fun e => own_ne ht h.abv (by decide) e.symm)
  have km : W'.heap[c.gm]? = W.heap[c.gm]? := hg.block c.gm (Array.getElem?_eq_some_iff.1 h.mea).1 (fun e => own_ne ht h.mea (by decide) e.symm)
  have kt : W'.ownsRow c.B 5 1 bv out.length (Lib.byteCells out) := wown_keep h.buf (fun k hk => hg.block k (h.buf.lt k hk).2 (fun e => own_two ht h.buf (by decide) e.symm hk))
  have hlow : Below c.B W W' := ⟨hg.os, hg.tape, hg.output, hg.size, fun k hk => hg.block k (by have := h.Bl; omega) (fun e => by have := (ht.lt k e.symm).1; omega)⟩
  have hblk : WkC W' c L.length gone pv bv tv := kb.trans h.blk
  have hba : c.ga ≠ c.b := fun e => ty_ne (e ▸ h.abv) h.blk (by decide)
  have hbm : c.gm ≠ c.b := fun e => h.ngm (.inl e)
  refine ⟨⟨wset_block hblk, h.pvs, wown_keep kt (fun k hk => wset_other (fun e => own_ne kt hblk (by decide) (e ▸ hk))), h.emp, ⟨ts', wown_keep hown (fun k hk => wset_other (fun e => own_ne hown hblk (by decide) (e ▸ hk)))⟩, (wset_other hbm).trans (km.trans h.mea), (wset_other hba).trans (ka.trans h.abv), h.abl, (h.row.below hlow).below ((Below.refl c.B W').setCell (p := ⟨c.b, 13, none⟩) h.bB _), h.bB, h.gB⟩, ?_⟩
  refine ⟨hg.os, hg.tape, hg.output, by simp only [World.setCell, Array.size_modify]; exact hg.size, fun k hk hD => ?_, fun k hD => ?_⟩
  · rw [wset_other (fun e => hD (.inl e))]
    exact hg.block k hk (fun e => hD (.inr (.inr (.inr e.symm))))
  · rcases hD with e | e | e | e
    · exact .inl (.inl e)
    · exact .inl (.inr (.inl e))
    · exact .inl (.inr (.inr (.inl e)))
    · rcases hat with q | q
      · exact .inl (.inr (.inr (.inr (q ▸ e))))
      · rw [q] at e; cases e; exact .inr (Nat.le_refl _)
set_option maxRecDepth 100000 in
set_option maxHeartbeats 1000000 in
theorem note_any (p x : ByteArray) (w : World) (h : WSt L c gone out ab pv bv tv nn w) (hlen : nn ≤ 100000) (hp : p.size ≤ 1000000) (hx : x.size ≤ 100) :
    Calls Tryz.prog 44 #[.pointer (some ⟨c.b, 0, none⟩), .string p, .string x] w fun e w' => e = .returned (.tuple #[]) ∧ ∃ tv', WSt L c gone out ab pv bv tv' (nn + 1) w' ∧ TurnC (DS c bv tv) (DS c bv tv') w w' := by
  obtain ⟨i0, hi, hz0, hz1, hz2⟩ := info_parts Tryz.info9
  have c1 : w.cell? ⟨c.b, 13, none⟩ = some tv := by rw [h.blk.cell]; rfl
  obtain ⟨ts, hts⟩ := h.nts
  have hBl := h.Bl
  have ha : WSt L c gone out ab pv bv tv nn (w.alloc (.cells #[.string (p ++ ⟨#[58, 32]⟩ ++ x)] 9)) := h.below ((Below.refl _ _).alloc (Nat.le_refl _) _)
  have HH := hide h
  have HA := hide ha
  clear h ha
  go_enter Tryz.func44, Tryz.ntmps44
  go_wp2_with (at_builtin; refine wpList_append_own_at _ rfl _ _ 25 rfl c.B 9 i0 (.string ⟨#[]⟩) 1 16 Tryz.underlying25 hi hz0 hz1 hz2 rfl (by decide) _ _ _ rfl (hts.alloc _) ⟨w.heap.size, 0, none⟩ 1 1 [.string (p ++ ⟨#[58, 32]⟩ ++ x)] rfl rfl (cell_one_new _ _ _) (by simp [Value.oneCell']) (by unfold maxLen; omega) (by omega) (by simp; omega) ?_)
  intro v' w2 hown' hgrow _ hat
  obtain ⟨hS, hT2⟩ := HA.out.noted hgrow hown' (by simpa using hat)
  have hb2 : w2.heap[c.b]? = (w.alloc (.cells #[.string (p ++ ⟨#[58, 32]⟩ ++ x)] 9)).heap[c.b]? := hgrow.block c.b HA.out.blk.lt (fun e => own_ne (hts.alloc _) HA.out.blk (by decide) e.symm)
  have hblk2 : WkC w2 c L.length gone pv bv tv := hb2.trans HA.out.blk
  have d1 : w2.cell? ⟨c.b, 13, none⟩ = some tv := by rw [hblk2.cell]; rfl
  have f1 : w2.frozen? ⟨c.b, 13, none⟩ = false := hblk2.frozen 13
  have HS := hide (⟨hS, hT2⟩ : _ ∧ _)
  obtain ⟨ao, n', cap', rfl⟩ : ∃ ao n' cap', v' = .slice ao n' cap' := by
    rcases hown'.2 with ⟨hv, _⟩ | ⟨g, cap', cur, hv, _⟩
    · exact ⟨_, _, _, hv⟩
    · exact ⟨_, _, _, hv⟩
  clear hS hT2 hown' hgrow hb2 hblk2 hat
  go_wp2
  go_end0
  obtain ⟨hS, hT2⟩ := HS.out
  exact ⟨rfl, _, hS, (TurnC.of_below ((Below.refl _ _).alloc (Nat.le_refl _) _)).trans hT2⟩
set_option maxRecDepth 100000 in
set_option maxHeartbeats 1000000 in
theorem count_any (w : World) (h : WSt L c gone out ab pv bv tv nn w) (hg : gone ≤ 1000000) (hms : (gone : Int) + 1 ≤ c.ms) :
    Calls Tryz.prog 78 #[.pointer (some ⟨c.b, 0, none⟩)] w fun e w' => e = .returned (.tuple #[]) ∧ WSt L c (gone + 1) out ab pv bv tv nn w' ∧ TurnC (DS c bv tv) (DS c bv tv) w w' := by
  have c1 : w.cell? ⟨c.b, 10, none⟩ = some (.int .i64 (gone : Int)) := by rw [h.blk.cell]; rfl
  have f1 : w.frozen? ⟨c.b, 10, none⟩ = false := h.blk.frozen 10
  obtain ⟨w1, hw1⟩ : ∃ w1, w.setCell ⟨c.b, 10, none⟩ (.int .i64 ((gone : Int) + 1)) = w1 := ⟨_, rfl⟩
  have h1 : WSt L c (gone + 1) out ab pv bv tv nn w1 := by
    rw [← hw1]
    refine h.set (i := 10) ?_ h.pvs rfl rfl
    show WkO _ _ _ _ _ _ _ _ _ _ _ (((gone + 1 : Nat)) : Int) _ _ _
    rw [show ((gone + 1 : Nat) : Int) = (gone : Int) + 1 from by omega]
    exact wset_block h.blk
  have hT : TurnC (DS c bv tv) (DS c bv tv) w w1 := by rw [← hw1]; exact TurnC.setCell _ _ _ (.inl rfl)
  have d1 : w1.drew.cell? ⟨c.b, 10, none⟩ = some (.int .i64 ((gone : Int) + 1)) := by
    have := h1.blk.cell 10
    rw [show ((gone + 1 : Nat) : Int) = (gone : Int) + 1 from by omega] at this
    exact this
  have d2 : w1.drew.cell? ⟨c.b, 5, none⟩ = some (.int .i64 c.ms) := h1.blk.cell 5
  have hb : decide (c.ms < (gone : Int) + 1) = false := by rw [decide_eq_false_iff_not]; omega
  have HX := hide (⟨h1, hT⟩ : _ ∧ _)
  clear h h1 hT
  go_enter Tryz.func78, Tryz.ntmps78
  go_wp2
  try rw [hw1]
  refine (fun (KEY : (?G : World → Prop) w1.drew) => ?main) ?key
  case main =>
    go_region
    all_goals exact KEY
  case key =>
    go_wp2
    go_end0
    obtain ⟨h1, hT⟩ := HX.out
    exact ⟨rfl, h1.below ((Below.refl _ _).drew), hT.trans (TurnC.of_below ((Below.refl _ _).drew))⟩
end Go.Proofs.YtfemboojdablhaaGreatDoor.Tre
namespace Go.Proofs.YtfemboojdablhaaGreatDoor.Tre
open Go.RowKit Go.Shelf
variable {L : List NodeD} {c : Cf} {gone nn : Nat} {out : List UInt8} {ab : List Bool} {pv bv tv : Value} {W W' : World}
def lineB (b : Bool) (p : ByteArray) : List UInt8 := if b then p.data.toList ++ [10] else []
abbrev TurnE (D E D' E' : Nat → Prop) (w w' : World) : Prop := TurnC (fun k => D k ∨ E k) (fun k => D' k ∨ E' k) w w'
theorem withE {D D' E : Nat → Prop} {w w' : World} (h : TurnC D D' w w') : TurnE D E D' E w w' := TurnC.wide h
def Stab (J : (Nat → Prop) → (Nat → Prop) → World → Prop) : Prop := ∀ (D D' E : Nat → Prop) (w w' : World), J D E w → TurnC D D' w w' → J D' E w'
def WntP (L : List NodeD) (c : Cf) (t : Bool) (J : (Nat → Prop) → (Nat → Prop) → World → Prop) (gone nn : Nat) (out : List UInt8) (ab : List Bool) (bv tv : Value) (E : Nat → Prop) (p : ByteArray) (w : World) (e : Ending) (w' : World) : Prop :=
  (∃ r, e = .returned r) ∧ ∃ pv' bv' E', WSt L c gone (out ++ lineB t p) ab pv' bv' tv nn w' ∧ J (DS c bv' tv) E' w' ∧ TurnE (DS c bv tv) E (DS c bv' tv) E' w w'
def Wnt (L : List NodeD) (c : Cf) (test : Nat → Bool) (J : (Nat → Prop) → (Nat → Prop) → World → Prop) : Prop :=
  ∀ (vb k : Nat) (p : ByteArray) (d : Int) (n : NodeD) (kv : Value) (gone nn : Nat) (out : List UInt8) (ab : List Bool) (pv bv tv : Value) (E : Nat → Prop) (w : World),
    WSt L c gone out ab pv bv tv nn w → J (DS c bv tv) E w → VisB w vb p d k n kv → ¬ E vb → L[k]? = some n → out.length + p.size + 1 ≤ 1000000000 → 0 < p.size →
    Calls Tryz.prog 69 #[.pointer (some ⟨vb, 0, none⟩), .pointer (some ⟨c.kb, 0, none⟩)] w (WntP L c (test k) J gone nn out ab bv tv E p w)
def LookP (L : List NodeD) (c : Cf) (t : Bool) (J : (Nat → Prop) → (Nat → Prop) → World → Prop) (gone nn : Nat) (out : List UInt8) (ab : List Bool) (bv tv : Value) (E : Nat → Prop) (p : ByteArray) (w : World) (e : Ending) (w' : World) : Prop :=
  e = .returned (.tuple #[]) ∧ ∃ pv' bv' E', WSt L c gone (out ++ lineB t p) ab pv' bv' tv nn w' ∧ J (DS c bv' tv) E' w' ∧ TurnE (DS c bv tv) E (DS c bv' tv) E' w w'
set_option maxRecDepth 100000 in
set_option maxHeartbeats 1000000 in
theorem look_any {test : Nat → Bool} {J : (Nat → Prop) → (Nat → Prop) → World → Prop} (hW : Wnt L c test J) (hJs : Stab J) (vb k : Nat) (p : ByteArray) (d : Int) (n : NodeD) (kv : Value) (E : Nat → Prop) (w : World) (h : WSt L c gone out ab pv bv tv nn w) (hJ : J (DS c bv tv) E w) (hv : VisB w vb p d k n kv) (hE : ¬ E vb) (hn : L[k]? = some n) (hlen : out.length + p.size + 1 ≤ 1000000000) (h0 : 0 < p.size) :
    Calls Tryz.prog 80 #[.pointer (some ⟨c.b, 0, none⟩), .pointer (some ⟨vb, 0, none⟩)] w (LookP L c (decide (c.mn ≤ d) && test k) J gone nn out ab bv tv E p w) := by
  have c0 : w.drew.cell? ⟨vb, 1, none⟩ = some (.int .i64 d) := hv.cell 1
  have c1 : w.drew.cell? ⟨c.b, 3, none⟩ = some (.int .i64 c.mn) := h.blk.cell 3
  have c2 : w.drew.cell? ⟨c.b, 6, none⟩ = some (.func (.func 69) #[] #[.pointer (some ⟨c.kb, 0, none⟩)]) := h.blk.cell 6
  have hT : TurnC (DS c bv tv) (DS c bv tv) w w.drew := TurnC.of_below (Below.refl _ w).drew
  have hs1 := h.below (Below.refl _ w).drew
  have hJ1 := hJs _ _ _ _ _ hJ hT
  have HC := hide (hW vb k p d n kv gone nn out ab pv bv tv E w.drew hs1 hJ1 (hv.turn hT (hv.nD h)) hE hn hlen h0)
  have HX := hide (⟨hs1, hJ1, hT⟩ : _ ∧ _ ∧ _)
  clear h hJ hv hs1 hJ1 hT
  by_cases hd : c.mn ≤ d
  · have hb : decide (c.mn ≤ d) = true := decide_eq_true hd
    have hbs : Hid ((decide (c.mn ≤ d) && test k) = test k) := by rw [hb, Bool.true_and]; exact rfl
    go_enter Tryz.func80, Tryz.ntmps80
    go_wp2
    refine (fun (KEY : (?G : World → Prop) w.drew) => ?main) ?key
    case main =>
      go_region
      all_goals exact KEY
    case key =>
      go_wp2_with fail
      refine HC.out.mono ?_
      rintro e w' ⟨⟨r, rfl⟩, pv', bv', E', h1, h2, h3⟩
      have HY := hide (⟨h1, h2, h3⟩ : _ ∧ _ ∧ _)
      clear h1 h2 h3
      go_wp2
      go_end0
      obtain ⟨h1, h2, h3⟩ := HY.out
      rw [hbs.out]
      exact ⟨rfl, pv', bv', E', h1, h2, (withE HX.out.2.2).trans h3⟩
  · have hb : decide (c.mn ≤ d) = false := decide_eq_false hd
    go_enter Tryz.func80, Tryz.ntmps80
    go_wp2
    refine (fun (KEY : (?G2 : World → Prop) w.drew) => ?main2) ?key2
    case main2 =>
      go_region
      all_goals exact KEY
    case key2 =>
      go_wp2
      go_end0
      rw [hb]
      obtain ⟨h1, h2, h3⟩ := HX.out
      exact ⟨rfl, pv, bv, E, by simpa [lineB] using h1, h2, withE h3⟩
end Go.Proofs.YtfemboojdablhaaGreatDoor.Tre
namespace Go.Proofs.YtfemboojdablhaaGreatDoor.Tre
open Go.RowKit Go.Shelf
variable {L : List NodeD} {c : Cf} {gone nn : Nat} {out : List UInt8} {ab : List Bool} {pv bv tv : Value} {W W' : World}
def selV (mn : Int) (test : Nat → Bool) (v : Vis) : Bool := decide (mn ≤ v.depth) && test v.node
def outW (mn : Int) (test : Nat → Bool) (l : List Vis) : List UInt8 := outL (l.filter (selV mn test))
theorem outW_app (mn : Int) (test : Nat → Bool) (a b : List Vis) : outW mn test (a ++ b) = outW mn test a ++ outW mn test b := by
  unfold outW; rw [List.filter_append, outL_app]
theorem outW_one (mn : Int) (test : Nat → Bool) (p : ByteArray) (d : Int) (k : Nat) : outW mn test [⟨p, d, k⟩] = lineB (decide (mn ≤ d) && test k) p := by
  unfold outW lineB
  by_cases h : (decide (mn ≤ d) && test k) = true
  · rw [List.filter_cons_of_pos (by exact h), h]; simp [outL]
  · rw [List.filter_cons_of_neg (by exact h)]
    rw [Bool.not_eq_true] at h
    rw [h]; rfl
theorem lineB_le (b : Bool) (p : ByteArray) : (lineB b p).length ≤ p.size + 1 := by
  unfold lineB
  cases b
  · simp
  · simp
structure GoH (L : List NodeD) (c : Cf) (J : (Nat → Prop) → (Nat → Prop) → World → Prop) (s t len lo : Nat) (gone nn : Nat) (out : List UInt8) (ab : List Bool) (pv bv tv : Value) (E : Nat → Prop) (w : World) : Prop where
  st : WSt L c gone out ab pv bv tv nn w
  j : J (DS c bv tv) E w
  ol : out.length + s ≤ 20000 * gone
  nl : nn + t ≤ gone
  bud : gone + len ≤ 1000
  abf : ∀ i, lo ≤ i → i < L.length → ab[i]? = some false
def WkPost (L : List NodeD) (c : Cf) (test : Nat → Bool) (J : (Nat → Prop) → (Nat → Prop) → World → Prop) (l : List Vis) (s t gone : Nat) (out : List UInt8) (ab : List Bool) (bv tv : Value) (E : Nat → Prop) (w : World) (e : Ending) (w' : World) : Prop :=
  e = .returned (.tuple #[]) ∧ ∃ pv' bv' tv' nn' E', WSt L c (gone + l.length) (out ++ outW c.mn test l) ab pv' bv' tv' nn' w' ∧ J (DS c bv' tv') E' w' ∧ TurnE (DS c bv tv) E (DS c bv' tv') E' w w' ∧ (out ++ outW c.mn test l).length + s ≤ 20000 * (gone + l.length) ∧ nn' + t ≤ gone + l.length
structure Asks (L : List NodeD) (c : Cf) (test : Nat → Bool) (J : (Nat → Prop) → (Nat → Prop) → World → Prop) : Prop where
  wnt : Wnt L c test J
  stab : Stab J
  lt : ∀ D E w, J D E w → ∀ k, E k → k < w.heap.size
  low : ∀ D E w, J D E w → ∀ k, E k → c.B ≤ k
  ms : (1000 : Int) ≤ c.ms
theorem nE_turn {D E D' E' : Nat → Prop} {vb : Nat} (hT : TurnE D E D' E' W W') (hv : vb < W.heap.size) (hD : ¬ D vb) (hE : ¬ E vb) : ¬ E' vb := fun h => by
  rcases hT.new vb (.inr h) with (q | q) | q
  · exact hD q
  · exact hE q
  · omega
theorem nDE {D E : Nat → Prop} {vb : Nat} (hD : ¬ D vb) (hE : ¬ E vb) : ¬ (D vb ∨ E vb) := fun h => h.elim hD hE
theorem isdir_any (k : Int) (w : World) : Calls Tryz.prog 86 #[.int .u8 k] w fun e w' => e = .returned (.bool (k == 100 || k == 120)) ∧ w' = w := by
  by_cases h1 : k = 100
  · subst h1
    go_enter Tryz.func86, Tryz.ntmps86
    go_wp2
    go_ret
    exact ⟨rfl, rfl⟩
  · have e1 : (k == 100) = false := by rw [beq_eq_false_iff_ne]; exact h1
    have HE : Hid ((k == 100 || k == 120) = (k == 120)) := by rw [e1, Bool.false_or]; exact rfl
    go_enter Tryz.func86, Tryz.ntmps86
    go_wp2
    go_ret
    exact ⟨by rw [HE.out]; rfl, rfl⟩
end Go.Proofs.YtfemboojdablhaaGreatDoor.Tre
