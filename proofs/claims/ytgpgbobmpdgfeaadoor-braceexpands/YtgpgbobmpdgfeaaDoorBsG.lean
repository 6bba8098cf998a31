/- The law BraceExpands. -/
import Derived.Test.YtgpgbobmpdgfeaaDoorBsF
import Derived.Laws.OwnMore
namespace Go.Proofs.YtgpgbobmpdgfeaaDoor
open Go.RowKit Go.Shelf

set_option maxRecDepth 100000 in
set_option maxHeartbeats 4000000 in
theorem expands_any (s : List UInt8) (w : World) (hG : GW w) (hbig : s.length ≤ 9223372036854775807) :
    Calls Tryd.prog 3 #[.string (bs s)] w fun e w' => e = .returned (.bool true) ∧ Below w.heap.size w w' := by
  have hw2 : 2 ≤ w.heap.size := by have := hG.lt; omega
  have hx1 := expand_any s w hG (by omega)
  obtain ⟨xs, hxs⟩ : ∃ xs, listD s = xs := ⟨_, rfl⟩
  obtain ⟨er, her⟩ : ∃ er, errD s = er := ⟨_, rfl⟩
  have hxl : xs.length ≤ 200 := by rw [← hxs]; exact listD_len s
  have hee : (er != er) = false := by simp
  have HXE := hide (And.intro hxs her)
  clear hxs her
  go_enter Tryd.func3, Tryd.ntmps3
  go_wp2_with fail
  refine hx1.mono ?_
  rintro e w1 h1
  obtain ⟨a1, c1, rfl, hb1, hr1⟩ := expV_one h1
  rw [HXE.out.1] at hr1
  rw [HXE.out.1, HXE.out.2]
  clear h1 hx1
  have hx2 := expandD_any s w1 (by omega)
  go_wp2_with fail
  refine hx2.mono ?_
  rintro e w2 h2
  obtain ⟨a2, c2, rfl, hb2, hr2⟩ := expV_one h2
  rw [HXE.out.1] at hr2
  rw [HXE.out.1, HXE.out.2]
  clear h2 hx2
  have hr1b := ownsRow_block hr1 (fun g _ hlt => hb2.block g hlt)
  have hlt1 : ∀ g, Value.ownBlock (.slice a1 xs.length c1) = some g → w.heap.size ≤ g ∧ g < w1.heap.size := fun g hg => ownsRow_lt hr1 hg
  have hge2 : ∀ g, Value.ownBlock (.slice a2 xs.length c2) = some g → w1.heap.size ≤ g ∧ g < w2.heap.size := fun g hg => ownsRow_lt hr2 hg
  have hsm := same_any (xs := xs) (by omega) (txRow_of hr1b) (txRow_of hr2)
  have HB := hide (And.intro hb1 (And.intro hb2 (And.intro hr2 (And.intro hlt1 hge2))))
  clear hb1 hb2 hr1 hr2 hlt1 hge2
  go_wp2_with fail
  refine hsm.mono ?_
  rintro e w3 ⟨rfl, n, hw⟩
  have hh : w3.heap = w2.heap := by rw [hw]; rfl
  have hb3 : Below w.heap.size w2 w3 := by rw [hw]; exact ⟨rfl, rfl, rfl, Nat.le_refl _, fun _ _ => rfl⟩
  have hr3 := ownsRow_block (w' := w3) hr1b (fun g _ _ => by rw [hh])
  have HH := hide hh
  clear hw hsm hr1b hh
  go_wp2_with fail
  refine (num_any _ _).mono ?_
  rintro e w4 ⟨rfl, hw⟩
  rw [hw]
  clear hw
  go_wp2
  go_loopw [8] (fun iv wr => ∃ (k : Nat) (ys : List Value), iv = .int .i64 (k : Int) ∧ k ≤ xs.length ∧ wr.ownsRow w.heap.size 9 1 (.slice a1 xs.length c1) xs.length ys ∧ Below w.heap.size w3 wr ∧ (∀ g, Value.ownBlock (.slice a2 xs.length c2) = some g → wr.heap[g]? = w3.heap[g]?)) (fun iv _ => xs.length - (intOf iv).toNat)
  case atStart => exact ⟨0, _, rfl, Nat.zero_le _, hr3, Below.refl _ _, fun _ _ => rfl⟩
  case round =>
    obtain ⟨k, ys, rfl, hk, hr, hb, hk2⟩ := hrel
    by_cases hlt : k < xs.length
    · have hkI : (k : Int) < (xs.length : Int) := by omega
      obtain ⟨g, rfl⟩ : ∃ g, a1 = some ⟨g, 0, none⟩ := by
        rcases hr.2 with ⟨_, e⟩ | ⟨g, cap, cur, e, _⟩
        · omega
        · cases e; exact ⟨g, rfl⟩
      obtain ⟨y, hy⟩ : ∃ y, ys[k]? = some y := ⟨_, List.getElem?_eq_getElem (by have := hr.1; omega)⟩
      have hc := (World.ownsRow.cellAt hr k (by omega)).trans hy
      have hfz := World.ownsRow.frozenAt hr k
      obtain ⟨hst, _⟩ := World.ownsRow.stored hr k (.string ⟨#[63]⟩)
      have HR := hide (And.intro hst (And.intro hb hk2))
      clear hr hst hb hk2 hr3 hy
      go_wp2
      go_roundw
      case rel =>
        obtain ⟨hst, hb, hk2⟩ := HR.out
        obtain ⟨_, _, _, hlt1, hge2⟩ := HB.out
        have hg1 := hlt1 g rfl
        refine ⟨k + 1, _, by simp, by omega, hst, hb.setCell (p := ⟨g, k, none⟩) hg1.1 _, fun g2 hg2 => ?_⟩
        have hg3 := hge2 g2 hg2
        exact (Below.heap_setCell _ _ _ g2 (by show g2 ≠ g; omega)).trans (hk2 g2 hg2)
      case measure => simp [intOf]; omega
    · have hkI : ¬ ((k : Int) < (xs.length : Int)) := by omega
      obtain ⟨hb1, hb2, hr2, _, _⟩ := HB.out
      have hB : Below w.heap.size w wr := hb1.trans ((hb2.mono hb1.size).trans (hb3.trans hb))
      have hx5 := expand_any s wr (hG.below hB hw2) (by omega)
      have hr5 := ownsRow_block (w' := wr) hr2 (fun g hg _ => (hk2 g hg).trans (by rw [HH.out]))
      clear hb1 hb2 hr2 hr3 hb hk2 hr hb3
      go_wp2_with fail
      refine hx5.mono ?_
      rintro e w5 h5
      obtain ⟨a5, c5, rfl, hb5, hr6⟩ := expV_one h5
      rw [HXE.out.1] at hr6
      rw [HXE.out.1, HXE.out.2]
      clear h5 hx5
      have hsm := same_any (xs := xs) (by omega) (txRow_of hr6) (txRow_of (ownsRow_block hr5 (fun g _ hlt => hb5.block g hlt)))
      clear hr5 hr6
      go_wp2_with fail
      refine hsm.mono ?_
      rintro e w6 ⟨rfl, n, hw⟩
      rw [hw]
      clear hw hsm
      go_wp2
      go_ret
      exact ⟨rfl, hB.trans ((hb5.mono hB.size).trans ⟨rfl, rfl, rfl, Nat.le_refl _, fun _ _ => rfl⟩)⟩
end Go.Proofs.YtgpgbobmpdgfeaaDoor
