/- The reader: what stands in brackets. -/
import Derived.Test.YtdlljlmgoiobpaaGreatDoorER
namespace Go.Proofs.YtdlljlmgoiobpaaGreatDoor
open Go.RowKit Go.Maps
def PcP (b : Nat) (s : ByteArray) (d : Nat) (o : Res PtD) (w : World) (e : Ending) (w' : World) : Prop := match o with
  | .bad r => (∃ p, e = .panicked (thrown (r : Int) p)) ∧ FrE b w w'
  | .ok p j => (∃ v, e = .returned v ∧ PtIs b w' p v) ∧ RdB w' b s j d ∧ FrE b w w'
theorem RdB.deep {W : World} {b : Nat} {s : ByteArray} {i d : Nat} (h : RdB W b s i d) (j : Nat) : RdB (W.setCell ⟨b, 2, none⟩ (.int .i64 (j : Int))) b s i j := by
  obtain ⟨hl, hk⟩ := Array.getElem?_eq_some_iff.1 h
  unfold RdB
  show (W.heap.modify b _)[b]? = _
  rw [Array.getElem?_eq_getElem (by rw [Array.size_modify]; exact hl), Array.getElem_modify_self, hk]
  rfl
theorem MaxW.fr {b : Nat} {W W' : World} (h : MaxW W) (hb : 1 < b) (hs : b < W.heap.size) (hf : FrE b W W') : MaxW W' := by
  obtain ⟨m, hm⟩ := h
  exact ⟨m, (hf.cell (by omega) (by omega)).trans hm⟩
/-- The contract of a call that reads at place i. -/
def ReadsOK (fn : Nat) (b : Nat) (s : ByteArray) (d : Nat) (ex : Nat → Res PtD) : Prop := ∀ (w : World) (i : Nat), RdB w b s i d → i ≤ s.size → MaxW w → Calls Tryz.prog fn #[.pointer (some ⟨b, 0, none⟩)] w (PcP b s d (ex i) w)
def ZP : Obj := .cells #[.int .i64 0, .string ⟨#[]⟩, .slice none 0 0, .int .i64 0] 42
set_option maxRecDepth 100000 in
set_option maxHeartbeats 2000000 in
theorem group_any (b : Nat) (s : ByteArray) (d f : Nat) (ex : Nat → Res PtD) (hb1 : 1 < b) (hs : s.size ≤ 200) (hd : d + f = 20) (hex : f ≠ 0 → ReadsOK 20 b s (d + 1) ex) (hgo : f ≠ 0 → GoesE s.data.toList ex) : ReadsOK 55 b s d (grpD f ex s.data.toList) := by
  intro w i h hi hM
  have hsl : s.data.toList.length = s.size := by simp
  have hb : b < w.heap.size := (Array.getElem?_eq_some_iff.1 h).1
  have hgb : w.heap.size ≠ b := by omega
  by_cases hf0 : f = 0
  · have hdb : ((d : Int) == 20) = true := by rw [beq_iff_eq]; omega
    have hd20 : (d : Int) = 20 := by omega
    have f0 : FrE b w (w.alloc ZP) := FrE.alloc _ _ _
    obtain ⟨c0, c1, c2, cf⟩ := (h.alloc ZP).cells
    have H0 := hide (⟨f0, hf0⟩ : _ ∧ _)
    unfold ZP at c0 c1 c2
    clear h f0 hf0 cf hd
    go_enter Tryz.func55, Tryz.ntmps55
    go_wp2_with (go_at_call 19; refine (throw_any _ _ _).mono ?_; rintro e w2 ⟨rfl, hw⟩; rw [hw]; clear hw)
    refine ⟨rfl, ?_⟩
    unfold grpD
    rw [if_pos H0.out.2]
    exact ⟨⟨_, rfl⟩, H0.out.1⟩
  · have hdb : ((d : Int) == 20) = false := by rw [beq_eq_false_iff_ne]; omega
    have hsz : (w.setCell ⟨b, 2, none⟩ (.int .i64 ((d : Int) + 1))).heap.size = w.heap.size := by show (w.heap.modify _ _).size = _; rw [Array.size_modify]
    have h1 : RdB ((w.setCell ⟨b, 2, none⟩ (.int .i64 ((d : Int) + 1))).alloc ZP) b s i (d + 1) := (h.deep (d + 1)).alloc ZP
    have f1 : FrE b w ((w.setCell ⟨b, 2, none⟩ (.int .i64 ((d : Int) + 1))).alloc ZP) := (FrE.set b w 2 _).trans (FrE.alloc _ _ _)
    have r1 : PaB ((w.setCell ⟨b, 2, none⟩ (.int .i64 ((d : Int) + 1))).alloc ZP) w.heap.size 0 ⟨#[]⟩ none 0 0 0 := by
      have := PaB.new (w.setCell ⟨b, 2, none⟩ (.int .i64 ((d : Int) + 1))) 0 ⟨#[]⟩ none 0 0 0
      rw [hsz] at this
      exact this
    clear hsz
    have hcall := hex hf0 _ i h1 hi (hM.fr hb1 hb f1)
    have hgi := hgo hf0 i
    obtain ⟨c0, c1, c2, cf⟩ := (h.alloc ZP).cells
    have cf2 := cf 2
    have hgr : grpD f ex s.data.toList i = shutD s.data.toList (ex i) := by unfold grpD; rw [if_neg hf0]
    obtain ⟨o, ho⟩ : ∃ o, ex i = o := ⟨_, rfl⟩
    rw [ho] at hcall hgr hgi
    rw [hgr]
    clear hgr hex hgo h cf ho
    unfold ZP at c0 c1 c2 cf2 hcall
    cases o with
    | bad r =>
      have HR := hide f1
      clear h1 f1 r1 hgi
      go_enter Tryz.func55, Tryz.ntmps55
      go_wp2_with fail
      refine hcall.mono ?_
      rintro e w1 ⟨⟨p, rfl⟩, hf⟩
      exact ⟨rfl, ⟨_, rfl⟩, HR.out.trans hf⟩
    | ok p j =>
      obtain ⟨_, hj, _⟩ := hgi p j (by rw [hsl]; exact hi) rfl
      rw [hsl] at hj
      have HR := hide (⟨f1, r1, hb, hM⟩ : _ ∧ _ ∧ _ ∧ _)
      clear h1 f1 r1 hgi hM
      go_enter Tryz.func55, Tryz.ntmps55
      go_wp2_with fail
      refine hcall.mono ?_
      rintro e w1 ⟨⟨v, rfl, op, st, ka, m, c, ks, rfl, hpe, hst, hk⟩, hr, hf⟩
      have r1 := HR.out.2.1.keep hf hgb
      have F1 := HR.out.1.trans hf
      clear hcall c0 c1 c2 cf2 hf
      have hg1 : w.heap.size < w1.heap.size := r1.cells.2.2.2.2.2
      have hgb1 : w1.heap.size ≠ b := by omega
      have q2 := PaB.new w1 op st ka m c p.atoms
      unfold partV
      clear q2
      obtain ⟨W2, hW2⟩ : ∃ W2, w1.alloc (.cells #[.int .i64 op, .string st, .slice ka m c, .int .i64 p.atoms] 42) = W2 := ⟨_, rfl⟩
      have h2 : RdB W2 b s j (d + 1) := by rw [← hW2]; exact hr.alloc _
      have f2 : FrE b w W2 := by rw [← hW2]; exact F1.trans (FrE.alloc _ _ _)
      have f12 : FrE b w1 W2 := by rw [← hW2]; exact FrE.alloc _ _ _
      have r2 : PaB W2 w.heap.size 0 ⟨#[]⟩ none 0 0 0 := r1.keep f12 hgb
      have q2 : PaB W2 w1.heap.size op st ka m c p.atoms := by rw [← hW2]; exact PaB.new w1 op st ka m c p.atoms
      have k2 := hk.keep f12
      have h3 : RdB (W2.setCell ⟨b, 2, none⟩ (.int .i64 (d : Int))) b s j d := h2.deep d
      have hwt := want_any b s j d 41 _ h3 hj hs
      obtain ⟨c0, c1, c2, cf⟩ := h2.cells
      have cf2 := cf 2
      have c2' : W2.cell? ⟨b, 2, none⟩ = some (.int .i64 ((d : Int) + 1)) := c2
      have HW := hide (⟨h3, f2.trans (FrE.set b W2 2 (.int .i64 (d : Int))), r2.keep (FrE.set b W2 2 (.int .i64 (d : Int))) hgb, q2.keep (FrE.set b W2 2 (.int .i64 (d : Int))) hgb1, k2.keep (FrE.set b W2 2 (.int .i64 (d : Int)))⟩ : _ ∧ _ ∧ _ ∧ _ ∧ _)
      clear r1 F1 hr cf c2 h2 f2 f12 r2 q2 k2 h3 hk
      go_wp2_with fail
      refine hwt.mono ?_
      rintro e w3 (⟨hc, rfl, h3, f3⟩ | ⟨hc, ⟨q, rfl⟩, f3⟩)
      · have r3 := HW.out.2.2.1.keep f3 hgb
        have q3 := HW.out.2.2.2.1.keep f3 hgb1
        have k3 := HW.out.2.2.2.2.keep f3
        have F3 := HW.out.2.1.trans f3
        obtain ⟨a0, a1, a2, a3, af, al⟩ := q3.cells
        obtain ⟨b0, b1, b2, b3, bf, bl⟩ := r3.cells
        have HZ := hide (⟨r3, k3, F3, h3, hpe, hc⟩ : _ ∧ _ ∧ _ ∧ _ ∧ _ ∧ _)
        clear r3 q3 k3 F3 h3 hpe f3 hwt c0 c1 c2' cf2 hW2 af hc
        go_wp2
        have fs := set4_fr w3 w.heap.size op st ka m c p.atoms
        obtain ⟨r3, k3, F3, h3, hpe, hc⟩ := HZ.out
        refine part_at rfl rfl rfl (r3.set4 op st ka m c p.atoms) ?_
        unfold shutD
        simp only
        rw [if_pos hc]
        exact ⟨⟨_, rfl, op, st, ka, m, c, ks, rfl, hpe, hst, k3.own r3 (by decide) fs⟩, h3.own fs hgb, F3.own (Nat.le_refl _) fs⟩
      · refine ⟨rfl, ?_⟩
        unfold shutD
        simp only
        rw [if_neg hc]
        exact ⟨⟨_, rfl⟩, HW.out.2.1.trans f3⟩
end Go.Proofs.YtdlljlmgoiobpaaGreatDoor
