/- Walk: a path is written behind Out; a note; the count. -/
import Derived.Test.YtfemboojdablhaaGreatDoorWkD
import Derived.Maps.AppendAt
import Derived.Deep.RegionLaw
import Derived.Deep.RegionHeldLaw
import Derived.Deep.RegionHeld3
namespace Go.Proofs.YtfemboojdablhaaGreatDoor.Tre
open Go.RowKit Go.Shelf

theorem Tryz.info5w : (Tryz.prog.info? 5).map (fun i => (i.zero, i.size, i.bytes)) = some (some (.int .u8 0), 1, 1) := by kernel_rfl
variable {L : List NodeD} {c : Cf} {gone nn : Nat} {out : List UInt8} {ab : List Bool} {pv bv tv : Value} {W W' : World}

theorem wcopy_any (w : World) (h : WSt L c gone out ab pv bv tv nn w) :
    Calls Tryz.prog 115 #[.pointer (some ⟨c.b, 11, none⟩)] w fun e w' => e = .returned (.tuple #[]) ∧ WSt L c gone out ab (.pointer (some ⟨c.b, 11, none⟩)) bv tv nn w' ∧ TurnC (DS c bv tv) (DS c bv tv) w w' := by
  rcases h.pvs with rfl | rfl
  · refine (wcopy_fresh c.b w (by rw [h.blk.cell]; rfl) h.blk.shape (h.blk.frozen 11)).mono ?_
    rintro e w' ⟨rfl, rfl⟩
    refine ⟨rfl, h.set (i := 11) ?_ (.inr rfl) rfl rfl, TurnC.setCell _ _ _ (.inl rfl)⟩
    exact wset_block h.blk
  · refine (wcopy_used c.b w (by rw [h.blk.cell]; rfl)).mono ?_
    rintro e w' ⟨rfl, rfl⟩
    exact ⟨rfl, h, TurnC.refl _ _⟩

/-- The buffer has grown: the walk's state behind it. -/
theorem WSt.wrote (h : WSt L c gone out ab pv bv tv nn W) {bv' : Value} {new : List UInt8} (hg : W.grownBy W' bv.ownBlock) (hown : W'.ownsRow c.B 5 1 bv' (out ++ new).length (Lib.byteCells (out ++ new))) (hat : bv'.ownBlock = bv.ownBlock ∨ bv'.ownBlock = some W.heap.size) (hne : new ≠ []) :
    WSt L c gone (out ++ new) ab pv bv' tv nn (W'.setCell ⟨c.b, 12, none⟩ bv') ∧ TurnC (DS c bv tv) (DS c bv' tv) W (W'.setCell ⟨c.b, 12, none⟩ bv') := by
  obtain ⟨ts, ht⟩ := h.nts
  have hbb : bv.ownBlock ≠ some c.b := own_ne h.buf h.blk (by decide)
  have kb : W'.heap[c.b]? = W.heap[c.b]? := hg.block c.b h.blk.lt (fun e => hbb e.symm)
  have ka : W'.heap[c.ga]? = W.heap[c.ga]? := hg.block c.ga (Array.getElem?_eq_some_iff.1 h.abv).1 (fun e => own_ne h.buf h.abv (by decide) e.symm)
  have km : W'.heap[c.gm]? = W.heap[c.gm]? := hg.block c.gm (Array.getElem?_eq_some_iff.1 h.mea).1 (fun e => own_ne h.buf h.mea (by decide) e.symm)
  have kt : W'.ownsRow c.B 9 1 tv nn ts := wown_keep ht (fun k hk => hg.block k (ht.lt k hk).2 (fun e => own_two h.buf ht (by decide) e.symm hk))
  have hlow : Below c.B W W' := ⟨hg.os, hg.tape, hg.output, hg.size, fun k hk => hg.block k (by have := h.Bl; omega) (fun e => by have := (h.buf.lt k e.symm).1; omega)⟩
  have hblk : WkC W' c L.length gone pv bv tv := kb.trans h.blk
  have hba : c.ga ≠ c.b := fun e => ty_ne (e ▸ h.abv) h.blk (by decide)
  have hbm : c.gm ≠ c.b := fun e => h.ngm (.inl e)
  refine ⟨⟨wset_block hblk, h.pvs, wown_keep hown (fun k hk => wset_other (fun e => own_ne hown hblk (by decide) (e ▸ hk))), fun e => by simp [hne] at e, ⟨ts, wown_keep kt (fun k hk => wset_other (fun e => own_ne kt hblk (by decide) (e ▸ hk)))⟩, (wset_other hbm).trans (km.trans h.mea), (wset_other hba).trans (ka.trans h.abv), h.abl, (h.row.below hlow).below ((Below.refl c.B W').setCell (p := ⟨c.b, 12, none⟩) h.bB _), h.bB, h.gB⟩, ?_⟩
  refine ⟨hg.os, hg.tape, hg.output, by simp only [World.setCell, Array.size_modify]; exact hg.size, fun k hk hD => ?_, fun k hD => ?_⟩
  · rw [wset_other (fun e => hD (.inl e))]
    exact hg.block k hk (fun e => hD (.inr (.inr (.inl e.symm))))
  · rcases hD with e | e | e | e
    · exact .inl (.inl e)
    · exact .inl (.inr (.inl e))
    · rcases hat with q | q
      · exact .inl (.inr (.inr (.inl (q ▸ e))))
      · rw [q] at e; cases e; exact .inr (Nat.le_refl _)
    · exact .inl (.inr (.inr (.inr e)))

set_option maxRecDepth 100000 in
set_option maxHeartbeats 1000000 in
theorem wbyte_any (x : UInt8) (w : World) (h : WSt L c gone out ab pv bv tv nn w) (hlen : out.length + 1 ≤ 1000000000) :
    Calls Tryz.prog 72 #[.pointer (some ⟨c.b, 11, none⟩), .int .u8 (x.toNat : Int)] w fun e w' => e = .returned .nilIface ∧ ∃ pv' bv', WSt L c gone (out ++ [x]) ab pv' bv' tv nn w' ∧ TurnC (DS c bv tv) (DS c bv' tv) w w' := by
  obtain ⟨i0, hi, hz0, hz1, hz2⟩ := info_parts Tryz.info5w
  go_enter Tryz.func72, Tryz.ntmps72
  go_wp2_with fail
  refine (wcopy_any w h).mono ?_
  rintro e w1 ⟨rfl, h1, hT⟩
  have c0 : w1.cell? ⟨c.b, 11, none⟩ = some (.pointer (some ⟨c.b, 11, none⟩)) := by rw [h1.blk.cell]; rfl
  have c1 : w1.cell? ⟨c.b, 12, none⟩ = some bv := by rw [h1.blk.cell]; rfl
  have ha : WSt L c gone out ab (.pointer (some ⟨c.b, 11, none⟩)) bv tv nn (w1.alloc (.cells #[.int .u8 (x.toNat : Int)] 5)) := h1.below ((Below.refl _ _).alloc (Nat.le_refl _) _)
  have hBl := h1.Bl
  have hbuf := h1.buf
  have HH := hide h1
  go_wp2_with (at_builtin; refine wpList_append_own_at _ rfl _ _ 87 rfl c.B 5 i0 (.int .u8 0) 1 1 Tryz.underlying87 hi hz0 hz1 hz2 rfl (by decide) _ _ _ rfl (hbuf.alloc _) ⟨w1.heap.size, 0, none⟩ 1 1 [.int .u8 (x.toNat : Int)] rfl rfl (cell_one_new _ _ _) (by simp [Value.oneCell']) (by unfold maxLen; omega) (by omega) (by simp; omega) ?_)
  intro v' w2 hown' hgrow _ hat
  have hown2 : w2.ownsRow c.B 5 1 v' (out ++ [x]).length (Lib.byteCells (out ++ [x])) := by
    rw [List.length_append, show Lib.byteCells (out ++ [x]) = Lib.byteCells out ++ [.int .u8 (x.toNat : Int)] from by simp [Lib.byteCells]]
    exact hown'
  obtain ⟨hS, hT2⟩ := ha.wrote hgrow hown2 (by simpa using hat) (by simp)
  have hb2 : w2.heap[c.b]? = (w1.alloc (.cells #[.int .u8 (x.toNat : Int)] 5)).heap[c.b]? := hgrow.block c.b ha.blk.lt (fun e => own_ne ha.buf ha.blk (by decide) e.symm)
  have hblk2 : WkC w2 c L.length gone (.pointer (some ⟨c.b, 11, none⟩)) bv tv := hb2.trans ha.blk
  have d0 : w2.cell? ⟨c.b, 11, none⟩ = some (.pointer (some ⟨c.b, 11, none⟩)) := by rw [hblk2.cell]; rfl
  have d1 : w2.cell? ⟨c.b, 12, none⟩ = some bv := by rw [hblk2.cell]; rfl
  have f1 : w2.frozen? ⟨c.b, 12, none⟩ = false := hblk2.frozen 12
  have HS := hide (⟨hS, hT2, hT⟩ : _ ∧ _ ∧ _)
  obtain ⟨ao, n', cap', rfl⟩ : ∃ ao n' cap', v' = .slice ao n' cap' := by
    rcases hown'.2 with ⟨hv, _⟩ | ⟨g, cap', cur, hv, _⟩
    · exact ⟨_, _, _, hv⟩
    · exact ⟨_, _, _, hv⟩
  clear hS hT2 hT hown2 hown' hgrow ha hb2 hblk2 hat
  go_wp2
  go_ret
  obtain ⟨hS, hT2, hT⟩ := HS.out
  exact ⟨rfl, _, _, hS, hT.trans ((TurnC.of_below ((Below.refl _ _).alloc (Nat.le_refl _) _)).trans hT2)⟩

set_option maxRecDepth 100000 in
set_option maxHeartbeats 1000000 in
theorem wstr_any (s : ByteArray) (w : World) (h : WSt L c gone out ab pv bv tv nn w) (hlen : out.length + s.size ≤ 1000000000) (hs : 0 < s.size) :
    Calls Tryz.prog 71 #[.pointer (some ⟨c.b, 11, none⟩), .string s] w fun e w' => e = .returned (.tuple #[.int .i64 s.size, .nilIface]) ∧ ∃ pv' bv', WSt L c gone (out ++ s.data.toList) ab pv' bv' tv nn w' ∧ TurnC (DS c bv tv) (DS c bv' tv) w w' := by
  obtain ⟨i0, hi, hz0, hz1, hz2⟩ := info_parts Tryz.info5w
  go_enter Tryz.func71, Tryz.ntmps71
  go_wp2_with fail
  refine (wcopy_any w h).mono ?_
  rintro e w1 ⟨rfl, h1, hT⟩
  have c0 : w1.cell? ⟨c.b, 11, none⟩ = some (.pointer (some ⟨c.b, 11, none⟩)) := by rw [h1.blk.cell]; rfl
  have c1 : w1.cell? ⟨c.b, 12, none⟩ = some bv := by rw [h1.blk.cell]; rfl
  have hBl := h1.Bl
  have hbuf := h1.buf
  have HH := hide h1
  go_wp2_with (at_builtin; refine wpList_append_str_at rfl _ _ 87 9 rfl c.B 5 i0 Tryz.underlying87 Tryz.underlying9 hi hz0 hz1 hz2 _ _ _ rfl hbuf s rfl ?c3 ?c4 hBl ?_)
  case c3 => unfold maxLen; omega
  case c4 => omega
  intro v' w2 hown' hgrow hat
  have hown2 : w2.ownsRow c.B 5 1 v' (out ++ s.data.toList).length (Lib.byteCells (out ++ s.data.toList)) := by
    rw [List.length_append, show Lib.byteCells (out ++ s.data.toList) = Lib.byteCells out ++ Lib.strCells s from by rw [Lib.strCells_eq]; simp [Lib.byteCells], show s.data.toList.length = s.size from by simp]
    exact hown'
  obtain ⟨hS, hT2⟩ := HH.out.wrote hgrow hown2 hat (by intro e; rw [← len_data, e] at hs; simp at hs)
  have hb2 : w2.heap[c.b]? = w1.heap[c.b]? := hgrow.block c.b HH.out.blk.lt (fun e => own_ne HH.out.buf HH.out.blk (by decide) e.symm)
  have hblk2 : WkC w2 c L.length gone (.pointer (some ⟨c.b, 11, none⟩)) bv tv := hb2.trans HH.out.blk
  have d0 : w2.cell? ⟨c.b, 11, none⟩ = some (.pointer (some ⟨c.b, 11, none⟩)) := by rw [hblk2.cell]; rfl
  have d1 : w2.cell? ⟨c.b, 12, none⟩ = some bv := by rw [hblk2.cell]; rfl
  have f1 : w2.frozen? ⟨c.b, 12, none⟩ = false := hblk2.frozen 12
  have HS := hide (⟨hS, hT2, hT⟩ : _ ∧ _ ∧ _)
  obtain ⟨ao, n', cap', rfl⟩ : ∃ ao n' cap', v' = .slice ao n' cap' := by
    rcases hown'.2 with ⟨hv, _⟩ | ⟨g, cap', cur, hv, _⟩
    · exact ⟨_, _, _, hv⟩
    · exact ⟨_, _, _, hv⟩
  clear hS hT2 hT hown2 hown' hgrow hb2 hblk2 hat
  go_wp2
  go_ret2
  obtain ⟨hS, hT2, hT⟩ := HS.out
  exact ⟨rfl, _, _, hS, hT.trans hT2⟩

/-- A visit's block. -/
def VisB (W : World) (vb : Nat) (p : ByteArray) (d : Int) (k : Nat) (n : NodeD) (kv : Value) : Prop :=
  W.heap[vb]? = some (.cells #[.string p, .int .i64 d, .int .i64 (k : Int), .int .u8 n.kind, .string n.name, .int .i64 n.up, .int .i64 n.size, .int .i64 n.time, .string n.text, kv, .bool false] 122 (0, 0))
theorem VisB.cell {vb k : Nat} {p : ByteArray} {d : Int} {n : NodeD} {kv : Value} (h : VisB W vb p d k n kv) (i : Nat) : W.cell? ⟨vb, i, none⟩ = #[.string p, .int .i64 d, .int .i64 (k : Int), .int .u8 n.kind, .string n.name, .int .i64 n.up, .int .i64 n.size, .int .i64 n.time, .string n.text, kv, .bool false][i]? := Lib.cell_of_heap h i
theorem VisB.lt {vb k : Nat} {p : ByteArray} {d : Int} {n : NodeD} {kv : Value} (h : VisB W vb p d k n kv) : vb < W.heap.size := (Array.getElem?_eq_some_iff.1 h).1
theorem VisB.nD {vb k : Nat} {p : ByteArray} {d : Int} {n : NodeD} {kv : Value} (h : VisB W vb p d k n kv) (hw : WSt L c gone out ab pv bv tv nn W) : ¬ DS c bv tv vb := by
  rintro (e | e | hk | hk)
  · subst e; exact ty_ne h hw.blk (by decide)
  · subst e; exact ty_ne h hw.abv (by decide)
  · exact own_ne hw.buf h (by decide) hk
  · obtain ⟨ts, ht⟩ := hw.nts
    exact own_ne ht h (by decide) hk
theorem VisB.turn {vb k : Nat} {p : ByteArray} {d : Int} {n : NodeD} {kv : Value} {D D' : Nat → Prop} (h : VisB W vb p d k n kv) (ht : TurnC D D' W W') (hn : ¬ D vb) : VisB W' vb p d k n kv := (ht.block vb h.lt hn).trans h
/-- The boxes of a printing function. -/
structure PrB (W : World) (b wb eb : Nat) : Prop where
  w : W.heap[wb]? = some (.cells #[.pointer (some ⟨b, 0, none⟩)] 63 (0, 0))
  e : W.heap[eb]? = some (.cells #[.int .u8 10] 5 (0, 0))
theorem one_cell {a : Nat} {v : Value} {t : TypeId} (h : W.heap[a]? = some (.cells #[v] t (0, 0))) : W.cell? ⟨a, 0, none⟩ = some v := by rw [Lib.cell_of_heap h]; rfl
set_option maxRecDepth 100000 in
set_option maxHeartbeats 4000000 in
theorem print1_any (wb eb vb k : Nat) (p : ByteArray) (d : Int) (n : NodeD) (kv : Value) (w : World) (h : WSt L c gone out ab pv bv tv nn w) (hp : PrB w c.b wb eb) (hv : VisB w vb p d k n kv) (hnw : ¬ DS c bv tv wb) (hne : ¬ DS c bv tv eb) (hlen : out.length + p.size + 1 ≤ 1000000000) (h0 : 0 < p.size) :
    Calls Tryz.prog 70 #[.pointer (some ⟨vb, 0, none⟩), .pointer (some ⟨wb, 0, none⟩), .pointer (some ⟨eb, 0, none⟩)] w fun e w' => e = .returned (.bool true) ∧ ∃ pv' bv', WSt L c gone (out ++ (p.data.toList ++ [10])) ab pv' bv' tv nn w' ∧ TurnC (DS c bv tv) (DS c bv' tv) w w' := by
  have c0 : w.cell? ⟨wb, 0, none⟩ = some (.pointer (some ⟨c.b, 0, none⟩)) := one_cell hp.w
  have c1 : w.cell? ⟨vb, 0, none⟩ = some (.string p) := by rw [hv.cell]; rfl
  have hb0 : Below w.heap.size w w.drew := (Below.refl _ _).drew
  have HST : Hid (Calls Tryz.prog 71 #[.pointer (some ⟨c.b, 11, none⟩), .string p] w.drew fun e w' => e = .returned (.tuple #[.int .i64 p.size, .nilIface]) ∧ ∃ pv' bv', WSt L c gone (out ++ p.data.toList) ab pv' bv' tv nn w' ∧ TurnC (DS c bv tv) (DS c bv' tv) w.drew w') := wstr_any p w.drew (h.below hb0) (by omega) h0
  have HP := hide (⟨h, hp, hnw, hne⟩ : _ ∧ _ ∧ _ ∧ _)
  have hwl : wb < w.heap.size := (Array.getElem?_eq_some_iff.1 hp.w).1
  have hel : eb < w.heap.size := (Array.getElem?_eq_some_iff.1 hp.e).1
  clear h hp hnw hne hv hb0
  go_enter Tryz.func70, Tryz.ntmps70
  go_wp2
  refine (fun (KEY : ∀ w', (∃ pv' bv', WSt L c gone (out ++ p.data.toList) ab pv' bv' tv nn w' ∧ TurnC (DS c bv tv) (DS c bv' tv) w.drew w') → (?G : World → Prop) w') => ?main) ?key
  case main =>
    go_region_with (go_at_call 71; refine HST.out.mono ?_; rintro e w6 ⟨rfl, hw6⟩)
    all_goals exact KEY _ hw6
  case key =>
    rintro w6 ⟨pv6, bv6, h6, hT6⟩
    obtain ⟨h, hp, hnw, hne⟩ := HP.out
    have k6 : ∀ k, k < w.heap.size → ¬ DS c bv tv k → w6.heap[k]? = w.heap[k]? := fun k hk hd => hT6.block k hk hd
    have c0 : w6.cell? ⟨wb, 0, none⟩ = some (.pointer (some ⟨c.b, 0, none⟩)) := one_cell ((k6 wb hwl hnw).trans hp.w)
    have c1 : w6.cell? ⟨eb, 0, none⟩ = some (.int .u8 10) := one_cell ((k6 eb hel hne).trans hp.e)
    have hb6 : Below w6.heap.size w6 w6.drew := (Below.refl _ _).drew
    have HBY : Hid (Calls Tryz.prog 72 #[.pointer (some ⟨c.b, 11, none⟩), .int .u8 10] w6.drew fun e w' => e = .returned .nilIface ∧ ∃ pv' bv', WSt L c gone (out ++ p.data.toList ++ [10]) ab pv' bv' tv nn w' ∧ TurnC (DS c bv6 tv) (DS c bv' tv) w6.drew w') := wbyte_any 10 w6.drew (h6.below hb6) (by rw [List.length_append]; have := len_data p; omega)
    have HT6 : Hid (TurnC (DS c bv tv) (DS c bv6 tv) w w6) := (TurnC.of_below ((Below.refl _ w).drew)).trans hT6
    clear h6 hT6 h hp hnw hne k6 hb6
    go_wp2
    refine (fun (KEY : ∀ w', (∃ pv' bv', WSt L c gone (out ++ p.data.toList ++ [10]) ab pv' bv' tv nn w' ∧ TurnC (DS c bv6 tv) (DS c bv' tv) w6.drew w') → (?G2 : World → Prop) w') => ?main2) ?key2
    case main2 =>
      go_region_with (go_at_call 72; refine HBY.out.mono ?_; rintro e w7 ⟨rfl, hw7⟩)
      all_goals exact KEY _ hw7
    case key2 =>
      rintro w7 ⟨pv7, bv7, h7, hT7⟩
      have HX := hide (⟨h7, hT7⟩ : _ ∧ _)
      clear h7 hT7
      go_wp2
      go_ret
      obtain ⟨h7, hT7⟩ := HX.out
      exact ⟨rfl, pv7, bv7, by rw [← List.append_assoc]; exact h7, HT6.out.trans ((TurnC.of_below ((Below.refl _ w6).drew)).trans hT7)⟩
end Go.Proofs.YtfemboojdablhaaGreatDoor.Tre
