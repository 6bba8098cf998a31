/- Walk: a note; the count; what is looked at. -/
import Derived.Test.YtfemboojdablhaaGreatDoorWkE
namespace Go.Proofs.YtfemboojdablhaaGreatDoor.Tre
open Go.RowKit Go.Shelf
variable {L : List NodeD} {c : Cf} {gone nn : Nat} {out : List UInt8} {ab : List Bool} {pv bv tv : Value} {W W' : World}

/-- The notes have grown. -/
theorem WSt.noted (h : WSt L c gone out ab pv bv tv nn W) {tv' : Value} {nn' : Nat} {ts' : List Value} (hg : W.grownBy W' tv.ownBlock) (hown : W'.ownsRow c.B 9 1 tv' nn' ts') (hat : tv'.ownBlock = tv.ownBlock ∨ tv'.ownBlock = some W.heap.size) :
    WSt L c gone out ab pv bv tv' nn' (W'.setCell ⟨c.b, 13, none⟩ tv') ∧ TurnC (DS c bv tv) (DS c bv tv') W (W'.setCell ⟨c.b, 13, none⟩ tv') := by
  obtain ⟨ts, ht⟩ := h.nts
  have hbb : tv.ownBlock ≠ some c.b := own_ne ht h.blk (by decide)
  have kb : W'.heap[c.b]? = W.heap[c.b]? := hg.block c.b h.blk.lt (fun e => hbb e.symm)
  have ka : W'.heap[c.ga]? = W.heap[c.ga]? := hg.block c.ga (Array.getElem?_eq_some_iff.1 h.abv).1 (fun e => own_ne ht h.abv (by decide) e.symm)
  have km : W'.heap[c.gm]? = W.heap[c.gm]? := hg.block c.gm (Array.getElem?_eq_some_iff.1 h.mea).1 (fun e => own_ne ht h.mea (by decide) e.symm)
  have kt : W'.ownsRow c.B 5 1 bv out.length (Lib.byteCells out) := wown_keep h.buf (fun k hk => hg.block k (h.buf.lt k hk).2 (fun e => own_two ht h.buf (by decide) e.symm hk))
  have hlow : Below c.B W W' := ⟨hg.os, hg.tape, hg.output, hg.size, fun k hk => hg.block k (by have := h.Bl; omega) (fun e => by have := (ht.lt k e.symm).1; omega)⟩
  have hblk : WkC W' c L.length gone pv bv tv := kb.trans h.blk
  have hba : c.ga ≠ c.b := fun e => ty_ne (e ▸ h.abv) h.blk (by decide)
  have hbm : c.gm ≠ c.b := fun e => h.ngm (.inl e)
  refine ⟨⟨wset_block hblk, h.pvs, wown_keep kt (fun k hk => wset_other (fun e => own_ne kt hblk (by decide) (e ▸ hk))), h.emp, ⟨ts', wown_keep hown (fun k hk => wset_other (fun e => own_ne hown hblk (by decide) (e ▸ hk)))⟩, (wset_other hbm).trans (km.trans h.mea), (wset_other hba).trans (ka.trans h.abv), h.abl, (h.row.below hlow).below ((Below.refl c.B W').setCell (p := ⟨c.b, 13, none⟩) h.bB _), h.bB, h.gB⟩, ?_⟩
  refine ⟨hg.os, hg.tape, hg.output, by simp only [World.setCell, Array.size_modify]; exact hg.size, fun k hk hD => ?_, fun k hD => ?_⟩
  · rw [wset_other (fun e => hD (.inl e))]
    exact hg.block k hk (fun e => hD (.inr (.inr (.inr e.symm))))
  · rcases hD with e | e | e | e
    · exact .inl (.inl e)
    · exact .inl (.inr (.inl e))
    · exact .inl (.inr (.inr (.inl e)))
    · rcases hat with q | q
      · exact .inl (.inr (.inr (.inr (q ▸ e))))
      · rw [q] at e; cases e; exact .inr (Nat.le_refl _)

set_option maxRecDepth 100000 in
set_option maxHeartbeats 1000000 in
theorem note_any (p x : ByteArray) (w : World) (h : WSt L c gone out ab pv bv tv nn w) (hlen : nn ≤ 100000) (hp : p.size ≤ 1000000) (hx : x.size ≤ 100) :
    Calls Tryz.prog 44 #[.pointer (some ⟨c.b, 0, none⟩), .string p, .string x] w fun e w' => e = .returned (.tuple #[]) ∧ ∃ tv', WSt L c gone out ab pv bv tv' (nn + 1) w' ∧ TurnC (DS c bv tv) (DS c bv tv') w w' := by
  obtain ⟨i0, hi, hz0, hz1, hz2⟩ := info_parts Tryz.info9
  have c1 : w.cell? ⟨c.b, 13, none⟩ = some tv := by rw [h.blk.cell]; rfl
  obtain ⟨ts, hts⟩ := h.nts
  have hBl := h.Bl
  have ha : WSt L c gone out ab pv bv tv nn (w.alloc (.cells #[.string (p ++ ⟨#[58, 32]⟩ ++ x)] 9)) := h.below ((Below.refl _ _).alloc (Nat.le_refl _) _)
  have HH := hide h
  have HA := hide ha
  clear h ha
  go_enter Tryz.func44, Tryz.ntmps44
  go_wp2_with (at_builtin; refine wpList_append_own_at _ rfl _ _ 25 rfl c.B 9 i0 (.string ⟨#[]⟩) 1 16 Tryz.underlying25 hi hz0 hz1 hz2 rfl (by decide) _ _ _ rfl (hts.alloc _) ⟨w.heap.size, 0, none⟩ 1 1 [.string (p ++ ⟨#[58, 32]⟩ ++ x)] rfl rfl (cell_one_new _ _ _) (by simp [Value.oneCell']) (by unfold maxLen; omega) (by omega) (by simp; omega) ?_)
  intro v' w2 hown' hgrow _ hat
  obtain ⟨hS, hT2⟩ := HA.out.noted hgrow hown' (by simpa using hat)
  have hb2 : w2.heap[c.b]? = (w.alloc (.cells #[.string (p ++ ⟨#[58, 32]⟩ ++ x)] 9)).heap[c.b]? := hgrow.block c.b HA.out.blk.lt (fun e => own_ne (hts.alloc _) HA.out.blk (by decide) e.symm)
  have hblk2 : WkC w2 c L.length gone pv bv tv := hb2.trans HA.out.blk
  have d1 : w2.cell? ⟨c.b, 13, none⟩ = some tv := by rw [hblk2.cell]; rfl
  have f1 : w2.frozen? ⟨c.b, 13, none⟩ = false := hblk2.frozen 13
  have HS := hide (⟨hS, hT2⟩ : _ ∧ _)
  obtain ⟨ao, n', cap', rfl⟩ : ∃ ao n' cap', v' = .slice ao n' cap' := by
    rcases hown'.2 with ⟨hv, _⟩ | ⟨g, cap', cur, hv, _⟩
    · exact ⟨_, _, _, hv⟩
    · exact ⟨_, _, _, hv⟩
  clear hS hT2 hown' hgrow hb2 hblk2 hat
  go_wp2
  go_end0
  obtain ⟨hS, hT2⟩ := HS.out
  exact ⟨rfl, _, hS, (TurnC.of_below ((Below.refl _ _).alloc (Nat.le_refl _) _)).trans hT2⟩

set_option maxRecDepth 100000 in
set_option maxHeartbeats 1000000 in
theorem count_any (w : World) (h : WSt L c gone out ab pv bv tv nn w) (hg : gone ≤ 1000000) (hms : (gone : Int) + 1 ≤ c.ms) :
    Calls Tryz.prog 78 #[.pointer (some ⟨c.b, 0, none⟩)] w fun e w' => e = .returned (.tuple #[]) ∧ WSt L c (gone + 1) out ab pv bv tv nn w' ∧ TurnC (DS c bv tv) (DS c bv tv) w w' := by
  have c1 : w.cell? ⟨c.b, 10, none⟩ = some (.int .i64 (gone : Int)) := by rw [h.blk.cell]; rfl
  have f1 : w.frozen? ⟨c.b, 10, none⟩ = false := h.blk.frozen 10
  obtain ⟨w1, hw1⟩ : ∃ w1, w.setCell ⟨c.b, 10, none⟩ (.int .i64 ((gone : Int) + 1)) = w1 := ⟨_, rfl⟩
  have h1 : WSt L c (gone + 1) out ab pv bv tv nn w1 := by
    rw [← hw1]
    refine h.set (i := 10) ?_ h.pvs rfl rfl
    show WkO _ _ _ _ _ _ _ _ _ _ _ (((gone + 1 : Nat)) : Int) _ _ _
    rw [show ((gone + 1 : Nat) : Int) = (gone : Int) + 1 from by omega]
    exact wset_block h.blk
  have hT : TurnC (DS c bv tv) (DS c bv tv) w w1 := by rw [← hw1]; exact TurnC.setCell _ _ _ (.inl rfl)
  have d1 : w1.drew.cell? ⟨c.b, 10, none⟩ = some (.int .i64 ((gone : Int) + 1)) := by
    have := h1.blk.cell 10
    rw [show ((gone + 1 : Nat) : Int) = (gone : Int) + 1 from by omega] at this
    exact this
  have d2 : w1.drew.cell? ⟨c.b, 5, none⟩ = some (.int .i64 c.ms) := h1.blk.cell 5
  have hb : decide (c.ms < (gone : Int) + 1) = false := by rw [decide_eq_false_iff_not]; omega
  have HX := hide (⟨h1, hT⟩ : _ ∧ _)
  clear h h1 hT
  go_enter Tryz.func78, Tryz.ntmps78
  go_wp2
  try rw [hw1]
  refine (fun (KEY : (?G : World → Prop) w1.drew) => ?main) ?key
  case main =>
    go_region
    all_goals exact KEY
  case key =>
    go_wp2
    go_end0
    obtain ⟨h1, hT⟩ := HX.out
    exact ⟨rfl, h1.below ((Below.refl _ _).drew), hT.trans (TurnC.of_below ((Below.refl _ _).drew))⟩
end Go.Proofs.YtfemboojdablhaaGreatDoor.Tre
