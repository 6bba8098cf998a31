/- The reader of a line 't': its number is none, its text is none. -/
import Derived.Test.YtconbmfbokpklaaGreatDoorContent
namespace Go.Proofs.YtconbmfbokpklaaGreatDoor
open Go.RowKit

set_option maxHeartbeats 0 in
set_option maxRecDepth 100000 in
theorem contentD {C : Nat} {A : Ads} (b g off cap : Nat) (y0 y1 : ByteArray) (w : World) (hbox : BoxZ w b) (hsent : Sent C A w) (hC : C ≤ w.heap.size) (hCb : C ≤ b) (hgb : g ≠ b) (hx : HasStrs w g off [y0, y1]) (hy0 : y0.size ≤ 100000) (hy1 : y1.size ≤ 100000) (hcap : 2 ≤ cap) (ho1 : gB y0 = false) (ho2 : (textD y1).isSome = false) :
    Calls Tryz.prog 65 #[.pointer (some ⟨b, 0, none⟩), .slice (some ⟨g, off, none⟩) 2 cap] w (RdPost A b (fieldsD 116 [y0, y1]) w) := by
  obtain ⟨d0, _, _, _, _, _, _, df⟩ := hbox.cells
  have f0 := df 0
  have hblt := hbox.lt
  have x1 : w.cell? ⟨g, off + 1, none⟩ = some (.string y1) := hx 1 y1 rfl
  have x0 : w.cell? ⟨g, off, none⟩ = some (.string y0) := hx 0 y0 rfl
  have hbg : ¬ b = g := fun e => hgb e.symm
  obtain ⟨W0, hW0⟩ : ∃ W0, ((w.setCell ⟨b, 0, none⟩ (.int .u8 102)).alloc (.cells #[.pointer (some ⟨b, 4, none⟩)] 136)).drew = W0 := ⟨_, rfl⟩
  have hg0 : w.grownBy W0 (some b) := by rw [← hW0]; exact ((set_grown w b 0 (.int .u8 102)).trans (World.grownBy_alloc _ _ _)).trans (grown_of_belowP ((Below.refl _ _).drew))
  have hbx0 : BoxP W0 b 102 (bs []) 0 0 0 (bs []) (.slice none 0 0) := by rw [← hW0]; exact (hbox.set0 102).below ((Below.refl _ _).alloc (Nat.le_refl _) _).drew (by simp; exact hblt)
  have hs0 := hsent.grown hg0 hCb hC
  have hC0 : C ≤ W0.heap.size := Nat.le_trans hC hg0.size
  have hp0 : W0.cell? ⟨w.heap.size, 0, none⟩ = some (.pointer (some ⟨b, 4, none⟩)) := by rw [← hW0, cell_drew_own, World.cell?_alloc_at _ _ _ _ (by simp)]; rfl
  have hx00 : W0.cell? ⟨g, off, none⟩ = some (.string y0) := hg0.cell (a := ⟨g, off, none⟩) x0 (fun e => hgb (Option.some.inj e))
  have hx01 : W0.cell? ⟨g, off + 1, none⟩ = some (.string y1) := hg0.cell (a := ⟨g, off + 1, none⟩) x1 (fun e => hgb (Option.some.inj e))
  obtain ⟨o1, heo1⟩ : ∃ o1, o1 = false := ⟨_, rfl⟩
  rw [← heo1] at ho1
  have HN : Hid (Calls Tryz.prog 87 #[.slice (some ⟨g, off, none⟩) 1 cap, .slice (some ⟨w.heap.size, 0, none⟩) 1 1] W0 fun e w' => e = .returned (eV A o1) ∧ ∃ sz tm, BoxP w' b 102 (bs []) 0 sz tm (bs []) (.slice none 0 0) ∧ (o1 = true → tm = nJ y0) ∧ W0.grownBy w' (some b)) := by
    refine (readNums1 (A := A) b g off cap w.heap.size 1 y0 102 (bs []) 0 0 0 (bs []) (.slice none 0 0) W0 hbx0 (by omega) hx00 hp0 hs0.c0).mono ?_
    rintro e w' ⟨sz', tm', rfl, hb, hv, hgg⟩
    rw [ho1] at hv ⊢
    cases o1
    · exact ⟨rfl, sz', tm', hb, fun h => (by cases h), hgg⟩
    · obtain ⟨rfl, rfl⟩ := hv (0, nJ y0) rfl
      exact ⟨rfl, _, _, hb, fun _ => rfl, hgg⟩
  obtain ⟨o2, heo2⟩ : ∃ o2, o2 = false := ⟨_, rfl⟩
  rw [← heo2] at ho2
  have HT : Hid (∀ (w1 : World) (sz tm : Int), BoxP w1 b 102 (bs []) 0 sz tm (bs []) (.slice none 0 0) → W0.grownBy w1 (some b) → Calls Tryz.prog 88 #[.string y1, .pointer (some ⟨b, 5, none⟩)] w1 fun e w' => e = .returned (eV A o2) ∧ BoxP w' b 102 (bs []) 0 sz tm ((textD y1).getD (bs [])) (.slice none 0 0) ∧ w1.grownBy w' (some b)) := by
    intro w1 sz tm hb hgg
    refine (readText_any (A := A) y1 b 102 (bs []) 0 sz tm (bs []) (.slice none 0 0) w1 hy1 hb (hs0.grown hgg hCb hC0) (Nat.le_trans hC0 hgg.size)).mono ?_
    rintro e w' ⟨rfl, h2, h3⟩
    rw [ho2]
    exact ⟨by rw [eV_errT], h2, h3⟩
  have HJ : Hid (∀ (w2 : World), Sent C A w2 → Calls Tryz.prog 39 #[.slice (some ⟨w2.heap.size, 0, none⟩) 2 2] (w2.alloc (.cells #[eV A o1, eV A o2] 48)) (fun e w' => ∃ v, e = .returned v ∧ JoinHas A o1 o2 w2 v w')) := by
    intro w2 hs2
    have hal : Below w2.heap.size w2 (w2.alloc (.cells #[eV A o1, eV A o2] 48)) := (Below.refl _ _).alloc (Nat.le_refl _) _
    refine (join_any w2.heap.size 2 [errT A o1, errT A o2] _ (fun j p hp => ?_) (by simp) (by simp) (fun p hp => ?_)).mono ?_
    · match j, hp with
      | 0, hp => cases hp; rw [World.cell?_alloc_at _ _ _ _ rfl, eV_errT]; rfl
      | 1, hp => cases hp; rw [World.cell?_alloc_at _ _ _ _ rfl, eV_errT]; rfl
      | j + 2, hp => cases hp
    · simp at hp
      rcases hp with rfl | rfl
      · exact (errT_O hs2 o1).below hal
      · exact (errT_O hs2 o2).below hal
    · rintro e w' ⟨p, rfl, h1, h2, h3, h4⟩
      exact ⟨_, rfl, p, rfl, h1, h2, h3, hal.trans (h4.mono hal.size)⟩
  have HYES : Hid (o1 = true → o2 = true → fieldsD 116 [y0, y1] = some (102, (((textD y1).getD (bs [])).size : Int), nJ y0, (textD y1).getD (bs []))) := by
    intro h1 h2
    rw [fD_t, ho1, h1]
    rw [h2] at ho2
    obtain ⟨t, ht⟩ := Option.isSome_iff_exists.1 ho2
    rw [ht]; rfl
  have HNO : Hid ((o1 && o2) = false → fieldsD 116 [y0, y1] = none) := by
    intro h1
    rw [fD_t, ho1]
    cases o1
    · rfl
    · have : o2 = false := by simpa using h1
      rw [this] at ho2
      have ht : textD y1 = none := by simpa using ho2
      rw [ht]; rfl
  have HS0 := hide hs0
  have HG0 := hide hg0
  obtain ⟨tx, htx⟩ : ∃ tx, (textD y1).getD (bs []) = tx := ⟨_, rfl⟩
  rw [htx] at HT HYES
  generalize hr : fieldsD 116 [y0, y1] = r
  rw [hr] at HYES HNO
  clear df hbox hsent hbx0 hp0 hx00 hs0 hg0 ho1 ho2 htx hr hx
  subst heo1
  subst heo2
  simp only [eV] at HN HT HJ
  go_enter Tryz.func65, Tryz.ntmps65
  go_wp2_with fail
  go_region_with (first | (go_at_call 87; refine (unhide HN).mono ?_; rintro e w1 ⟨rfl, sz, tm, hbx1, htm, hg1⟩; have hx11 : w1.cell? ⟨g, off + 1, none⟩ = some (.string y1) := hg1.cell (a := ⟨g, off + 1, none⟩) hx01 (fun e => hgb (Option.some.inj e))) | (go_at_call 88; refine ((unhide HT) w1 sz tm hbx1 hg1).mono ?_; rintro e w2 ⟨rfl, hbx2, hg2⟩) | (go_at_call 39; refine ((unhide HJ) w2 (((unhide HS0).grown hg1 hCb hC0).grown hg2 hCb (Nat.le_trans hC0 hg1.size))).mono ?_; rintro e w3 ⟨v, rfl, hjh⟩))
  all_goals
    obtain ⟨p, hv, hop, hp2, hnn, hb3⟩ := hjh
    have hbx3 := hbx2.below hb3 hbx2.lt
    obtain ⟨_, _, _, e3, _, e5, _, ef⟩ := hbx3.cells
    have g3 := ef 3
    have HB3 := hide hbx3
    have HOP := hide hop
    have HP2 := hide hp2
    have HNN := hide hnn
    have HV := hide hv
    have HTM := hide htm
    have HGG : Hid (w.grownBy w3 (some b)) := (((unhide HG0).trans hg1).trans hg2).trans (grown_of_belowP hb3)
    clear hbx3 hop hp2 hnn hv htm ef hbx2 hbx1 hg1 hg2 hb3
    go_wp2
    go_ret
    rw [HV.out]
    exact content_join rfl (unhide HB3) (unhide HOP) (unhide HP2) (unhide HNN) (unhide HGG) (fun h1 h2 => by rw [(unhide HYES) h1 h2, HTM.out h1]) (unhide HNO)
end Go.Proofs.YtconbmfbokpklaaGreatDoor
